package retain_test

import (
	"fmt"
	"math"
	"math/big"
	"math/rand"
	"testing"

	"plantlog/api"
	"plantlog/retain"
)

func part(num, den int) api.Fraction { return api.Fraction{Num: num, Den: den} }

func TestP93SumAndMean(t *testing.T) {
	b := bins{bin(0, 12, 2, 1, 5, 7), bin(100, 0, 0, 3, 0, 0), bin(200, -1, 1, 0, -1, -1), bin(400, -6, 3, 0, -4, -1)}
	for name, c := range map[string]struct {
		w          api.Window
		sum, count int
		mean       api.Fraction
	}{
		"all":                      {window(0, 500), 5, 6, part(5, 6)},
		"all moments":              {window(0, api.End), 5, 6, part(5, 6)},
		"one":                      {window(0, 100), 12, 2, part(6, 1)},
		"one and others":           {window(0, 200), 12, 2, part(6, 1)},
		"three":                    {window(0, 300), 11, 3, part(11, 3)},
		"others":                   {window(100, 200), 0, 0, api.Fraction{}},
		"no bins":                  {window(300, 400), 0, 0, api.Fraction{}},
		"an empty window":          {window(0, 0), 0, 0, api.Fraction{}},
		"an empty one after a bin": {window(100, 100), 0, 0, api.Fraction{}},
		"an empty one at the end":  {window(api.End, api.End), 0, 0, api.Fraction{}},
		"after all":                {window(500, api.End), 0, 0, api.Fraction{}},
		"below 0":                  {window(200, 500), -7, 4, part(-7, 4)},
		"the last one":             {window(400, 500), -6, 3, part(-2, 1)},
	} {
		sum, count, e := retain.Sum(b, 100, c.w)
		same(t, name, []any{sum, count, e}, []any{c.sum, c.count, api.OK})
		mean, ok, e := retain.Mean(b, 100, c.w)
		same(t, name+", mean", []any{mean, ok, e}, []any{c.mean, c.count > 0, api.OK})
	}
	mean, ok, e := retain.Mean(bins{bin(0, 0, 4, 0, -1, 1)}, 100, window(0, 100))
	same(t, "a mean of 0", []any{mean, ok, e}, []any{part(0, 1), true, api.OK})
	sum, count, e := retain.Sum(nil, 100, window(0, 100))
	same(t, "none", []any{sum, count, e}, []any{0, 0, api.OK})
	mean, ok, e = retain.Mean(nil, 100, window(0, 100))
	same(t, "none", []any{mean, ok, e}, []any{api.Fraction{}, false, api.OK})
}

func TestP93TheGreatestSum(t *testing.T) {
	b := make(bins, api.MaxBins)
	for i := range b {
		b[i] = bin(i, most*api.MaxValue-1, most, most, 0, api.MaxValue)
	}
	sum, count, e := retain.Sum(b, 1, window(0, api.End))
	same(t, "Sum", []any{sum, count, e}, []any{25_000_000_000_000_000 - api.MaxBins, 25_000_000_000, api.OK})
	mean, ok, e := retain.Mean(b, 1, window(0, api.End))
	same(t, "Mean", []any{mean, ok, e}, []any{part(4_999_999_999_999, 5_000_000), true, api.OK})
}

func TestP93SumErrors(t *testing.T) {
	check := func(what string, b bins, step int, w api.Window, want api.Errno) {
		t.Helper()
		sum, count, e := retain.Sum(b, step, w)
		same(t, what, []any{sum, count, e}, []any{0, 0, want})
		mean, ok, e := retain.Mean(b, step, w)
		same(t, what+", mean", []any{mean, ok, e}, []any{api.Fraction{}, false, want})
	}
	for name, c := range wrongBins {
		check(name, c.b, 10, window(-1, -5), c.want)
	}
	for _, step := range noSteps {
		check(fmt.Sprint("step ", step), nil, step, window(0, 0), api.ErrArg)
	}
	b := fullBins(5, 10)
	for _, w := range []api.Window{
		window(-10, 20), window(20, 10), window(0, api.End+10), window(0, api.End+api.DayLong), window(api.End+10, api.End+10), window(-10, -10), window(-10, 0), window(25, 15),
		window(math.MinInt, 0), window(0, math.MinInt), window(0, math.MaxInt), window(math.MinInt, math.MaxInt), window(math.MaxInt, math.MaxInt), window(math.MinInt, math.MinInt),
	} {
		check(fmt.Sprint(w), b, 10, w, api.ErrArg)
	}
	for _, w := range []api.Window{window(5, 20), window(0, 25), window(5, 25), window(5, 5), window(1, api.End), window(0, api.End-1), window(api.End-1, api.End)} {
		check(fmt.Sprint(w), b, 10, w, api.ErrRule)
	}
}

// TestP93ARollupHasTheSumOfItsSamples: as said under 'What follows'.
func TestP93ARollupHasTheSumOfItsSamples(t *testing.T) {
	r := rand.New(rand.NewSource(119))
	for range 1000 {
		l, step := someSamples(r, 60), divisors[r.Intn(len(divisors))]
		b, _ := retain.Bins(l, step)
		from := r.Intn(5) * step
		w := window(from, from+r.Intn(6)*step)
		sum, count := 0, 0
		for _, x := range l {
			if x.Quality == api.Good && w.From <= x.At && x.At < w.To {
				sum, count = sum+x.Value, count+1
			}
		}
		gotSum, gotCount, e := retain.Sum(b, step, w)
		same(t, fmt.Sprintf("%+v every %d, %+v", l, step, w), []any{gotSum, gotCount, e}, []any{sum, count, api.OK})
		want := part(0, 0)
		if count > 0 {
			x := big.NewRat(int64(sum), int64(count))
			want = part(int(x.Num().Int64()), int(x.Denom().Int64()))
		}
		mean, ok, e := retain.Mean(b, step, w)
		same(t, fmt.Sprintf("%+v every %d, %+v, mean", l, step, w), []any{mean, ok, e}, []any{want, count > 0, api.OK})
	}
}
