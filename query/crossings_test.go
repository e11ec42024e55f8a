package query_test

import (
	"fmt"
	"math"
	"math/big"
	"math/rand"
	"testing"

	"plantlog/api"
	"plantlog/query"
)

func TestP42Crossings(t *testing.T) {
	all := window(0, api.End)
	touch := series{good(0, 0), good(10, 5), good(20, 0), good(30, 5), uncertain(40, 5), good(50, 9), good(60, 5), good(70, 1)}
	for _, c := range []struct {
		what  string
		l     series
		w     api.Window
		limit int
		want  fractions
	}{
		{"the example", example(), all, 15, fractions{fraction(15, 2)}},
		{"downward", series{good(10, 20), good(20, 0)}, all, 15, fractions{fraction(25, 2)}},
		{"a line below 0", series{good(0, -1), uncertain(3, 1)}, all, 0, fractions{fraction(3, 2)}},
		{"a line at the limit's end", example(), all, 20, nil},
		{"a line at the limit's beginning", example(), all, 0, nil},
		{"touched from below, then crossed over equal samples, then at one", touch, all, 5, fractions{whole(30), whole(60)}},
		{"touched from above", series{good(0, 9), good(5, 5), good(9, 9)}, all, 5, nil},
		{"up and down", series{good(0, 0), good(2, 4), good(4, 0)}, all, 1, fractions{fraction(1, 2), fraction(7, 2)}},
		{"a bad sample between", series{good(0, 0), bad(1), good(2, 9)}, all, 5, nil},
		{"a bad sample after an equal one", series{good(0, 0), good(1, 5), bad(2), good(3, 9)}, all, 5, nil},
		{"a bad sample before an equal one", series{good(0, 0), bad(1), good(2, 5), good(3, 9)}, all, 5, nil},
		{"a bad sample is not 0", series{good(0, 9), bad(1)}, all, 5, nil},
		{"equal first", series{good(0, 5), good(1, 9)}, all, 5, nil},
		{"equal last", series{good(0, 0), good(1, 5)}, all, 5, nil},
		{"one sample", series{good(0, 0)}, all, 5, nil},
		{"no sample", nil, all, 5, nil},
		{"just from the beginning on", example(), window(5, 6), 10, fractions{whole(5)}},
		{"just before the end", example(), window(4, 5), 10, nil},
		{"a fraction just inside", example(), window(7, 8), 15, fractions{fraction(15, 2)}},
		{"a fraction before the beginning", example(), window(8, 9), 15, nil},
		{"a fraction after the end", example(), window(0, 7), 15, nil},
		{"an empty window", example(), window(5, 5), 10, nil},
		{"samples outside of the window", touch, window(30, 31), 5, fractions{whole(30)}},
		{"the first of equal samples outside", touch, window(31, 60), 5, nil},
		{"the least limit", series{good(0, -api.MaxValue), good(1, api.MaxValue)}, all, -api.MaxValue, nil},
		{"near the least limit", series{good(0, -api.MaxValue), good(api.End-1, api.MaxValue)}, all, 1 - api.MaxValue, fractions{fraction(api.End-1, 2*api.MaxValue)}},
		{"near the greatest limit", series{good(0, api.MaxValue), good(api.End-1, -api.MaxValue)}, all, 1 - api.MaxValue, fractions{fraction((2*api.MaxValue-1)*(api.End-1), 2*api.MaxValue)}},
		{"at the end of all", series{good(api.End-2, -api.MaxValue), good(api.End-1, api.MaxValue)}, all, api.MaxValue - 1, fractions{fraction((api.End-1)*2*api.MaxValue-1, 2*api.MaxValue)}},
	} {
		times, e := query.Crossings(c.l, c.w, c.limit)
		same(t, c.what, []any{times, e}, []any{c.want, api.OK})
	}
}

// crossed returns the crossings as the document says them, pair by pair.
func crossed(l series, w api.Window, limit int) fractions {
	var times fractions
	for i := range l {
		for j := i + 1; j < len(l); j++ {
			if crosses(l[i:j+1], limit) {
				time := crossedAt(l[i:j+1], limit)
				if time.Cmp(big.NewRat(int64(w.From), 1)) >= 0 && time.Cmp(big.NewRat(int64(w.To), 1)) < 0 {
					times = append(times, asFraction(time))
				}
			}
		}
	}
	return times
}

func crosses(l series, limit int) bool {
	a, b := l[0], l[len(l)-1]
	for _, x := range l {
		if x.Quality == api.Bad {
			return false
		}
	}
	for _, x := range l[1 : len(l)-1] {
		if x.Value != limit {
			return false
		}
	}
	return a.Value < limit && b.Value > limit || a.Value > limit && b.Value < limit
}

func crossedAt(l series, limit int) *big.Rat {
	if len(l) > 2 {
		return big.NewRat(int64(l[1].At), 1)
	}
	share := big.NewRat(int64(limit-l[0].Value), int64(l[1].Value-l[0].Value))
	share.Mul(share, big.NewRat(int64(l[1].At-l[0].At), 1))
	return share.Add(share, big.NewRat(int64(l[0].At), 1))
}

func TestP42CrossingsAsTheDocumentSays(t *testing.T) {
	r := rand.New(rand.NewSource(43))
	found := 0
	for i := range 2000 {
		l, w, limit := someSeries(r, 30), someWindow(r, 35), r.Intn(7)-3
		if i%3 == 0 {
			l, w, limit = wideSeries(r), someWindow(r, api.End), r.Intn(2*api.MaxValue)-api.MaxValue
		}
		want := crossed(l, w, limit)
		found += len(want)
		times, e := query.Crossings(l, w, limit)
		same(t, fmt.Sprint(l, w, limit), []any{times, e}, []any{want, api.OK})
	}
	if found < 500 {
		t.Errorf("%d crossings", found)
	}
}

func TestP42P43Limits(t *testing.T) {
	for limit, want := range map[int]api.Errno{
		-api.MaxValue: api.OK, 0: api.OK, api.MaxValue: api.OK,
		-api.MaxValue - 1: api.ErrArg, api.MaxValue + 1: api.ErrArg, math.MinInt: api.ErrArg, math.MaxInt: api.ErrArg,
	} {
		times, e := query.Crossings(example(), window(0, 0), limit)
		same(t, fmt.Sprint("Crossings of ", limit), []any{times, e}, []any{"[]", want})
		list, n, e := query.Above(example(), window(0, 0), limit)
		same(t, fmt.Sprint("Above ", limit), []any{list, n, e}, []any{"[]", 0, want})
	}
}
