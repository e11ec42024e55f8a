package query_test

import (
	"fmt"
	"math"
	"math/big"
	"math/rand"
	"slices"
	"testing"

	"plantlog/api"
	"plantlog/query"
)

// aggregates are what is to say of the valued time of a window.
type aggregates struct {
	sum, long   int
	average     api.Fraction
	low, high   int
	median      int
	hasAny      bool
	good, valid int // what GoodTime returns for Good and Uncertain
}

// counted returns the aggregates as the document says them, millisecond by millisecond.
func counted(l series, w api.Window) aggregates {
	var x aggregates
	var values []int
	eachMoment(l, w, func(_ int, s api.Sample) {
		if s.Quality == api.Good {
			x.good++
		}
		if s.Quality != api.Bad {
			values = append(values, s.Value)
			x.sum += s.Value
		}
	})
	x.long, x.valid = len(values), len(values)
	if len(values) == 0 {
		return x
	}
	slices.Sort(values)
	x.hasAny = true
	x.low, x.high = values[0], values[len(values)-1]
	x.median = values[(len(values)-1)/2]
	x.average = asFraction(big.NewRat(int64(x.sum), int64(x.long)))
	return x
}

// answered returns the aggregates as the package returns them.
func answered(t *testing.T, l series, w api.Window) aggregates {
	t.Helper()
	var x aggregates
	var e [6]api.Errno
	var is [3]bool
	x.sum, x.long, e[0] = query.Integral(l, w)
	x.average, is[0], e[1] = query.Average(l, w)
	x.low, x.high, is[1], e[2] = query.Extremes(l, w)
	x.median, is[2], e[3] = query.Median(l, w)
	x.good, e[4] = query.GoodTime(l, w, api.Good)
	x.valid, e[5] = query.GoodTime(l, w, api.Uncertain)
	x.hasAny = is[0]
	same(t, "what has a value", is, [3]bool{is[0], is[0], is[0]})
	same(t, "errors", e, [6]api.Errno{})
	return x
}

func TestP43Aggregates(t *testing.T) {
	l := mixed()
	for _, c := range []struct {
		what string
		l    series
		w    api.Window
		want aggregates
	}{
		{"the example", example(), window(0, 12), aggregates{40, 12, fraction(10, 3), 0, 20, 0, true, 12, 12}},
		{"all qualities", l, window(0, 100), aggregates{10*4 - 10*2 + 15*8 + 5*8, 65, fraction(36, 13), -2, 8, 0, true, 25, 65}},
		{"within one sample", l, window(12, 15), aggregates{12, 3, whole(4), 4, 4, 4, true, 3, 3}},
		{"from a sample on", l, window(10, 11), aggregates{4, 1, whole(4), 4, 4, 4, true, 1, 1}},
		{"up to a sample", l, window(19, 20), aggregates{4, 1, whole(4), 4, 4, 4, true, 1, 1}},
		{"a sample that is just over", l, window(20, 22), aggregates{-4, 2, whole(-2), -2, -2, -2, true, 0, 2}},
		{"before the first sample", l, window(0, 10), aggregates{}},
		{"over the first sample", l, window(0, 11), aggregates{4, 1, whole(4), 4, 4, 4, true, 1, 1}},
		{"bad alone", l, window(30, 50), aggregates{}},
		{"after the last sample", l, window(200, 203), aggregates{24, 3, whole(8), 8, 8, 8, true, 0, 3}},
		{"empty, within a sample", l, window(15, 15), aggregates{}},
		{"empty, at a sample", l, window(10, 10), aggregates{}},
		{"empty, after all samples", l, window(api.End, api.End), aggregates{}},
		{"no samples", nil, window(0, 9), aggregates{}},
		{"median of two halves", series{good(0, 5), good(10, 3)}, window(0, 20), aggregates{80, 20, whole(4), 3, 5, 3, true, 20, 20}},
		{"median just over a half", series{good(0, 5), good(11, 3)}, window(0, 21), aggregates{85, 21, fraction(85, 21), 3, 5, 5, true, 21, 21}},
		{"median of a value that comes twice", series{good(0, 1), good(4, 2), good(8, 1)}, window(0, 12), aggregates{16, 12, fraction(4, 3), 1, 2, 1, true, 12, 12}},
		{"all moments", series{good(0, api.MaxValue)}, window(0, api.End), aggregates{api.MaxValue * api.End, api.End, whole(api.MaxValue), api.MaxValue, api.MaxValue, api.MaxValue, true, api.End, api.End}},
		{"all moments below 0", series{uncertain(0, -api.MaxValue)}, window(0, api.End), aggregates{-api.MaxValue * api.End, api.End, whole(-api.MaxValue), -api.MaxValue, -api.MaxValue, -api.MaxValue, true, 0, api.End}},
		{"an average below 0", series{good(0, -1), good(1, 0)}, window(0, 3), aggregates{-1, 3, fraction(-1, 3), -1, 0, 0, true, 3, 3}},
	} {
		same(t, c.what, answered(t, c.l, c.w), c.want)
	}
}

func TestP43AggregatesAsTheDocumentSays(t *testing.T) {
	r := rand.New(rand.NewSource(44))
	for range 1500 {
		l, w := someSeries(r, 30), someWindow(r, 35)
		same(t, fmt.Sprint(l, w), answered(t, l, w), counted(l, w))
	}
}

// TestP43AdjacentWindows: the integrals of adjacent windows add up, and averages are not outside of the extremes.
func TestP43AdjacentWindows(t *testing.T) {
	r := rand.New(rand.NewSource(45))
	for range 1000 {
		l, w := wideSeries(r), someWindow(r, api.End)
		middle := w.From + r.Intn(w.To-w.From+1)
		a, b, both := answered(t, l, window(w.From, middle)), answered(t, l, window(middle, w.To)), answered(t, l, w)
		same(t, fmt.Sprint(l, w, middle), []int{a.sum + b.sum, a.long + b.long, a.good + b.good}, []int{both.sum, both.long, both.good})
		average := both.average
		if both.hasAny && (average.Num < both.low*average.Den || average.Num > both.high*average.Den || both.median < both.low || both.median > both.high) {
			t.Errorf("%v, %v: %+v", l, w, both)
		}
	}
}

func TestP43GoodTimeErrors(t *testing.T) {
	for worst, want := range map[int]api.Errno{
		api.Good: api.OK, api.Uncertain: api.OK,
		api.Bad: api.ErrKind, -1: api.ErrKind, 3: api.ErrKind, math.MinInt: api.ErrKind, math.MaxInt: api.ErrKind,
	} {
		n, e := query.GoodTime(mixed(), window(50, 50), worst)
		same(t, fmt.Sprint("worst ", worst), []any{n, e}, []any{0, want})
	}
}

func TestP43Buckets(t *testing.T) {
	l := mixed()
	b, e := query.Buckets(l, window(5, 58), 15)
	same(t, "buckets", []any{b, e}, []any{[]api.Bucket{
		{Window: window(5, 20), Good: 10, Average: whole(4), Minimum: 4, Maximum: 4},
		{Window: window(20, 35), Good: 10, Average: whole(-2), Minimum: -2, Maximum: -2},
		{Window: window(35, 50)},
		{Window: window(50, 58), Good: 8, Average: whole(8), Minimum: 8, Maximum: 8},
	}, api.OK})
	b, e = query.Buckets(l, window(55, 75), 20)
	same(t, "one whole bucket", []any{b, e}, []any{[]api.Bucket{{Window: window(55, 75), Good: 20, Average: whole(4), Minimum: 0, Maximum: 8}}, api.OK})
	b, e = query.Buckets(l, window(10, 20), api.DayLong)
	same(t, "one shorter bucket", []any{b, e}, []any{[]api.Bucket{{Window: window(10, 20), Good: 10, Average: whole(4), Minimum: 4, Maximum: 4}}, api.OK})
	b, e = query.Buckets(nil, window(3, 6), 2)
	same(t, "no samples", []any{b, e}, []any{[]api.Bucket{{Window: window(3, 5)}, {Window: window(5, 6)}}, api.OK})
	b, e = query.Buckets(l, window(15, 15), 2)
	same(t, "an empty window", []any{b, e}, []any{"[]", api.OK})
}

func TestP43BucketsAsTheDocumentSays(t *testing.T) {
	r := rand.New(rand.NewSource(46))
	for range 600 {
		l, w, every := someSeries(r, 30), someWindow(r, 35), 1+r.Intn(9)
		var want []api.Bucket
		for from := w.From; from < w.To; from += every {
			part := window(from, min(from+every, w.To))
			x := counted(l, part)
			want = append(want, api.Bucket{Window: part, Good: x.long, Average: x.average, Minimum: x.low, Maximum: x.high})
		}
		b, e := query.Buckets(l, w, every)
		same(t, fmt.Sprint(l, w, every), []any{b, e}, []any{want, api.OK})
	}
}

func TestP43BucketsErrors(t *testing.T) {
	for _, c := range partErrors() {
		b, e := query.Buckets(example(), c.w, c.every)
		same(t, fmt.Sprint(c.w, c.every), e, c.want)
		if e != api.OK {
			same(t, fmt.Sprint(c.w, c.every), b, "[]")
		}
	}
	b, e := query.Buckets(long(api.MaxSamples), window(0, api.MaxBuckets), 1)
	same(t, "as many as can be", []any{len(b), e}, []any{api.MaxBuckets, api.OK})
}

func TestP43Above(t *testing.T) {
	l := mixed()
	for _, c := range []struct {
		what  string
		w     api.Window
		limit int
		want  windows
		long  int
	}{
		{"samples next to each other are one window", window(0, 100), 3, windows{window(10, 20), window(50, 65), window(95, 100)}, 30},
		{"greater, not equal", window(0, 100), 4, windows{window(50, 65), window(95, 100)}, 20},
		{"a bad sample in between, which is not 0", window(0, 100), -3, windows{window(10, 30), window(50, 90), window(95, 100)}, 65},
		{"a limit at all values", window(0, 100), 8, nil, 0},
		{"cut by the window", window(12, 55), 3, windows{window(12, 20), window(50, 55)}, 13},
		{"the last millisecond", window(64, 66), 3, windows{window(64, 65)}, 1},
		{"before the first sample", window(0, 10), -api.MaxValue, nil, 0},
		{"an empty window in a sample", window(15, 15), 3, nil, 0},
		{"an empty window at a sample", window(10, 10), 3, nil, 0},
		{"all the rest", window(95, api.End), 3, windows{window(95, api.End)}, api.End - 95},
	} {
		list, n, e := query.Above(l, c.w, c.limit)
		same(t, c.what, []any{list, n, e}, []any{c.want, c.long, api.OK})
	}
}

func TestP43AboveAsTheDocumentSays(t *testing.T) {
	r := rand.New(rand.NewSource(47))
	for range 1500 {
		l, w, limit := someSeries(r, 30), someWindow(r, 35), r.Intn(8)-4
		var want windows
		count := 0
		eachMoment(l, w, func(at int, x api.Sample) {
			if x.Quality == api.Bad || x.Value <= limit {
				return
			}
			count++
			if n := len(want); n > 0 && want[n-1].To == at {
				want[n-1].To++
				return
			}
			want = append(want, window(at, at+1))
		})
		list, n, e := query.Above(l, w, limit)
		same(t, fmt.Sprint(l, w, limit), []any{list, n, e}, []any{want, count, api.OK})
	}
}

func TestP43Compare(t *testing.T) {
	a, b := mixed(), series{good(0, 6), bad(55), uncertain(58, 6), good(70, -2)}
	for _, c := range []struct {
		what        string
		a, b        series
		w           api.Window
		within      int
		both, apart int
	}{
		{"within 2", a, b, window(0, 100), 2, 20 + 5 + 32 + 5, 10 + 5 + 5},
		{"within 1", a, b, window(0, 100), 1, 62, 62},
		{"within 7", a, b, window(0, 100), 7, 62, 10 + 5},
		{"within all", a, b, window(0, 100), 2 * api.MaxValue, 62, 0},
		{"themselves", a, a, window(0, 100), 0, 65, 0},
		{"a part", a, b, window(18, 22), 2, 4, 2},
		{"none", a, nil, window(0, 100), 0, 0, 0},
		{"before one", a, series{good(100, 3)}, window(0, 100), 0, 0, 0},
		{"an empty window", a, b, window(15, 15), 0, 0, 0},
		{"the greatest difference", series{good(0, api.MaxValue)}, series{good(0, -api.MaxValue)}, window(0, api.End), 2*api.MaxValue - 1, api.End, api.End},
		{"not more than the greatest one", series{good(0, api.MaxValue)}, series{good(0, -api.MaxValue)}, window(0, api.End), 2 * api.MaxValue, api.End, 0},
	} {
		both, apart, e := query.Compare(c.a, c.b, c.w, c.within)
		same(t, c.what, []any{both, apart, e}, []any{c.both, c.apart, api.OK})
		both, apart, e = query.Compare(c.b, c.a, c.w, c.within)
		same(t, c.what+", the other way", []any{both, apart, e}, []any{c.both, c.apart, api.OK})
	}
}

func TestP43CompareAsTheDocumentSays(t *testing.T) {
	r := rand.New(rand.NewSource(48))
	for range 1500 {
		a, b, w, within := someSeries(r, 30), someSeries(r, 30), someWindow(r, 35), r.Intn(7)
		both, apart := 0, 0
		eachMoment(a, w, func(at int, x api.Sample) {
			eachMoment(b, window(at, at+1), func(_ int, y api.Sample) {
				if x.Quality == api.Bad || y.Quality == api.Bad {
					return
				}
				both++
				if x.Value-y.Value > within || y.Value-x.Value > within {
					apart++
				}
			})
		})
		n, k, e := query.Compare(a, b, w, within)
		same(t, fmt.Sprint(a, b, w, within), []any{n, k, e}, []any{both, apart, api.OK})
	}
}

func TestP43CompareErrors(t *testing.T) {
	for within, want := range map[int]api.Errno{
		0: api.OK, 2 * api.MaxValue: api.OK,
		-1: api.ErrArg, 2*api.MaxValue + 1: api.ErrArg, math.MinInt: api.ErrArg, math.MaxInt: api.ErrArg,
	} {
		both, apart, e := query.Compare(example(), example(), window(5, 5), within)
		same(t, fmt.Sprint("within ", within), []any{both, apart, e}, []any{0, 0, want})
	}
}
