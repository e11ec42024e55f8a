package query_test

import (
	"fmt"
	"math"
	"math/big"
	"math/rand"
	"testing"

	"plantlog/api"
	"plantlog/query"
)

// exact returns the value at a moment as the document says it; nil if there is none.
func exact(l series, stepped bool, at int) (*big.Rat, int) {
	var p, n *api.Sample
	for i := range l {
		if l[i].At <= at {
			p = &l[i]
		} else if n == nil {
			n = &l[i]
		}
	}
	switch {
	case p == nil:
		return nil, 0
	case p.Quality == api.Bad:
		return new(big.Rat), api.Bad
	case stepped || at == p.At || n == nil || n.Quality == api.Bad:
		return big.NewRat(int64(p.Value), 1), p.Quality
	}
	share := big.NewRat(int64(at-p.At), int64(n.At-p.At))
	rise := big.NewRat(int64(n.Value-p.Value), 1)
	quality := api.Good
	if p.Quality == api.Uncertain || n.Quality == api.Uncertain {
		quality = api.Uncertain
	}
	return share.Add(share.Mul(share, rise), big.NewRat(int64(p.Value), 1)), quality
}

func expectValue(t *testing.T, l series, stepped bool, at int) {
	t.Helper()
	want, is := api.Point{}, false
	if value, quality := exact(l, stepped, at); value != nil {
		want, is = api.Point{At: at, Value: asFraction(value), Quality: quality}, true
	}
	x, ok, e := query.ValueAt(l, stepped, at)
	same(t, fmt.Sprint("the value at ", at, stepped, l), []any{x, ok, e}, []any{want, is, api.OK})
}

func TestP41ValueAt(t *testing.T) {
	l := mixed()
	for _, c := range []struct {
		at            int
		line, stepped api.Point
	}{
		{10, api.Point{At: 10, Value: whole(4)}, api.Point{At: 10, Value: whole(4)}},
		{12, api.Point{At: 12, Value: fraction(14, 5), Quality: api.Uncertain}, api.Point{At: 12, Value: whole(4)}},
		{15, api.Point{At: 15, Value: whole(1), Quality: api.Uncertain}, api.Point{At: 15, Value: whole(4)}},
		{18, api.Point{At: 18, Value: fraction(-4, 5), Quality: api.Uncertain}, api.Point{At: 18, Value: whole(4)}},
		{20, api.Point{At: 20, Value: whole(-2), Quality: api.Uncertain}, api.Point{At: 20, Value: whole(-2), Quality: api.Uncertain}},
		{29, api.Point{At: 29, Value: whole(-2), Quality: api.Uncertain}, api.Point{At: 29, Value: whole(-2), Quality: api.Uncertain}},
		{30, api.Point{At: 30, Value: whole(0), Quality: api.Bad}, api.Point{At: 30, Value: whole(0), Quality: api.Bad}},
		{49, api.Point{At: 49, Value: whole(0), Quality: api.Bad}, api.Point{At: 49, Value: whole(0), Quality: api.Bad}},
		{55, api.Point{At: 55, Value: whole(8)}, api.Point{At: 55, Value: whole(8)}},
		{60, api.Point{At: 60, Value: whole(8)}, api.Point{At: 60, Value: whole(8)}},
		{61, api.Point{At: 61, Value: fraction(32, 5), Quality: api.Uncertain}, api.Point{At: 61, Value: whole(8)}},
		{66, api.Point{At: 66, Value: whole(0), Quality: api.Uncertain}, api.Point{At: 66, Value: whole(0), Quality: api.Uncertain}},
		{95, api.Point{At: 95, Value: whole(8), Quality: api.Uncertain}, api.Point{At: 95, Value: whole(8), Quality: api.Uncertain}},
		{api.End - 1, api.Point{At: api.End - 1, Value: whole(8), Quality: api.Uncertain}, api.Point{At: api.End - 1, Value: whole(8), Quality: api.Uncertain}},
	} {
		for stepped, want := range map[bool]api.Point{false: c.line, true: c.stepped} {
			x, ok, e := query.ValueAt(l, stepped, c.at)
			same(t, fmt.Sprint("at ", c.at, stepped), []any{x, ok, e}, []any{want, true, api.OK})
		}
	}
}

func TestP41Example(t *testing.T) {
	for stepped, want := range map[bool]int{false: 10, true: 0} {
		x, ok, e := query.ValueAt(example(), stepped, 5)
		same(t, fmt.Sprint("at 5 ", stepped), []any{x, ok, e}, []any{api.Point{At: 5, Value: whole(want)}, true, api.OK})
	}
}

func TestP41NoValue(t *testing.T) {
	for _, stepped := range []bool{false, true} {
		for at, l := range map[int]series{0: nil, 7: {}, 9: mixed(), api.End - 1: nil} {
			x, ok, e := query.ValueAt(l, stepped, at)
			same(t, fmt.Sprint("before the first sample ", at), []any{x, ok, e}, []any{api.Point{}, false, api.OK})
		}
		x, ok, e := query.ValueAt(series{bad(5)}, stepped, 5)
		same(t, "a bad value", []any{x, ok, e}, []any{api.Point{At: 5, Value: whole(0), Quality: api.Bad}, true, api.OK})
	}
}

func TestP41ValuesAsTheDocumentSays(t *testing.T) {
	r := rand.New(rand.NewSource(40))
	for range 400 {
		l := someSeries(r, 30)
		for at := range 32 {
			expectValue(t, l, r.Intn(2) == 0, at)
		}
		l = wideSeries(r)
		expectValue(t, l, false, r.Intn(api.End))
		if len(l) > 0 {
			x := l[r.Intn(len(l))]
			expectValue(t, l, false, max(x.At-1, 0))
			expectValue(t, l, false, x.At)
			expectValue(t, l, false, min(x.At+1, api.End-1))
		}
	}
}

func TestP41ValueAtErrors(t *testing.T) {
	for at, want := range map[int]api.Errno{0: api.OK, api.End - 1: api.OK, -1: api.ErrArg, api.End: api.ErrArg, math.MinInt: api.ErrArg, math.MaxInt: api.ErrArg} {
		for _, stepped := range []bool{false, true} {
			for _, l := range []series{nil, example()} {
				x, ok, e := query.ValueAt(l, stepped, at)
				same(t, fmt.Sprint("at ", at), e, want)
				if e != api.OK {
					same(t, fmt.Sprint("at ", at), []any{x, ok}, []any{api.Point{}, false})
				}
			}
		}
	}
}

func TestP41Points(t *testing.T) {
	l := mixed()
	for _, c := range []struct {
		w     api.Window
		every int
		want  string
	}{
		{window(0, 40), 10, "[{At:10 Value:{Num:4 Den:1} Quality:0} {At:20 Value:{Num:-2 Den:1} Quality:1} {At:30 Value:{Num:0 Den:1} Quality:2}]"},
		{window(0, 41), 20, "[{At:20 Value:{Num:-2 Den:1} Quality:1} {At:40 Value:{Num:0 Den:1} Quality:2}]"},
		{window(14, 17), 2, "[{At:14 Value:{Num:8 Den:5} Quality:1} {At:16 Value:{Num:2 Den:5} Quality:1}]"},
		{window(14, 16), 2, "[{At:14 Value:{Num:8 Den:5} Quality:1}]"},
		{window(62, 63), api.DayLong, "[{At:62 Value:{Num:24 Den:5} Quality:1}]"},
		{window(62, 62), 1, "[]"},
		{window(0, 10), 1, "[]"},
		{window(api.End, api.End), 1, "[]"},
		{window(api.End-2, api.End), 1, "[{At:345686399998 Value:{Num:8 Den:1} Quality:1} {At:345686399999 Value:{Num:8 Den:1} Quality:1}]"},
	} {
		p, e := query.Points(l, false, c.w, c.every)
		same(t, fmt.Sprint(c.w, c.every), []any{p, e}, fmt.Sprintf("[%s 0]", c.want))
	}
	p, e := query.Points(l, true, window(14, 21), 6)
	same(t, "stepped", []any{p, e}, "[[{At:14 Value:{Num:4 Den:1} Quality:0} {At:20 Value:{Num:-2 Den:1} Quality:1}] 0]")
}

// TestP41PointsAreValues: they are what ValueAt returns at each of the moments.
func TestP41PointsAreValues(t *testing.T) {
	r := rand.New(rand.NewSource(41))
	for range 500 {
		l, w, every, stepped := someSeries(r, 30), someWindow(r, 35), 1+r.Intn(9), r.Intn(2) == 0
		var want []api.Point
		for at := w.From; at < w.To; at += every {
			if x, ok, _ := query.ValueAt(l, stepped, at); ok {
				want = append(want, x)
			}
		}
		p, e := query.Points(l, stepped, w, every)
		same(t, fmt.Sprint(l, w, every), []any{p, e}, []any{want, api.OK})
	}
}

// partErrors are the errors that Points and Buckets share.
func partErrors() []struct {
	w     api.Window
	every int
	want  api.Errno
} {
	return []struct {
		w     api.Window
		every int
		want  api.Errno
	}{
		{window(0, 0), 0, api.ErrArg},
		{window(0, 9), -1, api.ErrArg},
		{window(0, 9), api.DayLong + 1, api.ErrArg},
		{window(0, 9), math.MinInt, api.ErrArg},
		{window(0, 9), math.MaxInt, api.ErrArg},
		{window(0, 9), 1, api.OK},
		{window(0, 9), api.DayLong, api.OK},
		{window(0, api.End), api.DayLong, api.OK},
		{window(0, api.End), 0, api.ErrArg},
		{window(0, api.End), 1, api.ErrLarge},
		{window(7, 7+api.MaxBuckets), 1, api.OK},
		{window(7, 8+api.MaxBuckets), 1, api.ErrLarge},
		{window(7, 7+3*api.MaxBuckets), 3, api.OK},
		{window(7, 5+3*api.MaxBuckets), 3, api.OK},
		{window(7, 8+3*api.MaxBuckets), 3, api.ErrLarge},
	}
}

func TestP41PointsErrors(t *testing.T) {
	for _, c := range partErrors() {
		// The number of moments counts, also if most of them have no value.
		for _, l := range []series{nil, {good(0, 5)}, {good(api.End-1, 5)}} {
			p, e := query.Points(l, false, c.w, c.every)
			same(t, fmt.Sprint(c.w, c.every), e, c.want)
			if e != api.OK {
				same(t, fmt.Sprint(c.w, c.every), p, "[]")
			}
		}
	}
	p, e := query.Points(series{good(0, 5)}, false, window(7, 7+api.MaxBuckets), 1)
	same(t, "as many as can be", []any{len(p), e}, []any{api.MaxBuckets, api.OK})
}

func TestP42Change(t *testing.T) {
	l := mixed()
	third := series{good(0, 0), good(3, 1)}
	down := series{good(0, 0), good(3, -1)}
	for _, c := range []struct {
		what    string
		l       series
		stepped bool
		w       api.Window
		want    int
		ok      bool
	}{
		{"on a line", example(), false, window(1, 4), 6000, true},
		{"stepped", example(), true, window(1, 4), 0, true},
		{"stepped over a sample", example(), true, window(1, 10), 20_000, true},
		{"a third", third, false, window(0, 1), 333, true},
		{"two thirds", third, false, window(0, 2), 666, true},
		{"each rounded", third, false, window(1, 2), 333, true},
		{"from two thirds", third, false, window(2, 3), 334, true},
		{"below 0, not toward 0", down, false, window(0, 1), -334, true},
		{"below 0, each rounded", down, false, window(1, 2), -333, true},
		{"below 0, up to a whole number", down, false, window(2, 3), -333, true},
		{"an exact thousandth", series{good(0, 0), good(1000, -1)}, false, window(0, 1), -1, true},
		{"half a thousandth", series{good(0, 0), good(2000, -1)}, false, window(0, 1), -1, true},
		{"to an uncertain value", l, false, window(10, 18), -4800, true},
		{"no time", l, false, window(18, 18), 0, true},
		{"over a bad sample", l, false, window(20, 50), 10_000, true},
		{"from a bad value", l, false, window(30, 50), 0, false},
		{"to a bad value", l, false, window(10, 49), 0, false},
		{"no time at a bad value", l, false, window(30, 30), 0, false},
		{"before the first sample", l, false, window(9, 10), 0, false},
		{"no sample", nil, false, window(0, 1), 0, false},
		{"to the last moment", series{good(0, -api.MaxValue), good(api.End-1, api.MaxValue)}, false, window(0, api.End-1), 2000 * api.MaxValue, true},
	} {
		n, ok, e := query.Change(c.l, c.stepped, c.w)
		same(t, c.what, []any{n, ok, e}, []any{c.want, c.ok, api.OK})
	}
}

// floor returns a thousandfold, rounded down.
func floor(f *big.Rat) int {
	n := new(big.Int).Mul(f.Num(), big.NewInt(1000))
	return int(n.Div(n, f.Denom()).Int64()) // Div rounds down if the divisor is above 0
}

func TestP42ChangeAsTheDocumentSays(t *testing.T) {
	r := rand.New(rand.NewSource(42))
	found := 0
	for i := range 3000 {
		l, w := someSeries(r, 30), someWindow(r, 35)
		if i%2 == 0 {
			l, w = wideSeries(r), someWindow(r, api.End)
		}
		stepped := r.Intn(3) == 0
		want, is := 0, false
		from, q := exact(l, stepped, w.From)
		to, q2 := exact(l, stepped, w.To)
		if from != nil && q != api.Bad && q2 != api.Bad {
			want, is = floor(to)-floor(from), true
			found++
		}
		n, ok, e := query.Change(l, stepped, w)
		same(t, fmt.Sprint(l, w), []any{n, ok, e}, []any{want, is, api.OK})
	}
	if found < 500 {
		t.Errorf("%d changes", found)
	}
}

func TestP42ChangeErrors(t *testing.T) {
	for w, want := range map[api.Window]api.Errno{
		window(0, api.End-1):         api.OK,
		window(0, api.End):           api.ErrArg,
		window(api.End, api.End):     api.ErrArg,
		window(api.End-1, api.End-1): api.OK,
	} {
		n, ok, e := query.Change(series{good(0, 5)}, false, w)
		same(t, fmt.Sprint(w), []any{n, ok, e}, []any{0, want == api.OK, want})
	}
}
