package compress_test

import (
	"fmt"
	"math"
	"math/big"
	"math/rand"
	"testing"

	"plantlog/api"
	"plantlog/compress"
)

// someKept returns some indices of a series, rising.
func someKept(r *rand.Rand, n int) []int {
	var kept []int
	for i := range n {
		if r.Intn(2) == 0 {
			kept = append(kept, i)
		}
	}
	return kept
}

// exact returns the reconstruction as the document says it.
func exact(l series, at int) (*big.Rat, bool) {
	var before, after *api.Sample
	for i := range l {
		switch {
		case l[i].At == at:
			return fraction(l[i].Value, 1), l[i].Quality != api.Bad
		case l[i].At < at:
			before = &l[i]
		case after == nil:
			after = &l[i]
		}
	}
	if before == nil || after == nil || before.Quality == api.Bad || after.Quality == api.Bad {
		return nil, false
	}
	return onLine(*before, *after, at), true
}

// asFraction returns f in lowest terms, as package big keeps it.
func asFraction(f *big.Rat) api.Fraction {
	return api.Fraction{Num: int(f.Num().Int64()), Den: int(f.Denom().Int64())}
}

func TestP22KeptErrors(t *testing.T) {
	l := example()
	door := api.Door{Deviation: 1, MaxGap: 100}
	for _, c := range []struct {
		l    series
		kept []int
		want api.Errno
	}{
		{l, []int{0, 1, 2, 3}, api.OK},
		{l, []int{0, 1, 2, 3, 3}, api.ErrLarge},
		{l, []int{-1, -1, -1, -1, -1}, api.ErrLarge},
		{l, []int{-1}, api.ErrArg},
		{l, []int{4}, api.ErrArg},
		{l, []int{math.MinInt}, api.ErrArg},
		{l, []int{math.MaxInt}, api.ErrArg},
		{l, []int{0, 4}, api.ErrArg},
		{l, []int{1, 1}, api.ErrOrder},
		{l, []int{2, 1}, api.ErrOrder},
		{l, []int{2, -1}, api.ErrArg},
		{l, []int{2, 1, -1}, api.ErrOrder},
		{l, []int{2, -1, 1}, api.ErrArg},
		{nil, []int{0}, api.ErrLarge},
		{series{{Quality: 7}}, []int{-1, -1}, api.ErrKind},
		{make(series, api.MaxSamples+1), []int{-1}, api.ErrLarge},
	} {
		for name, r := range map[string]result{
			"Keep":  of(compress.Keep(c.l, c.kept)),
			"Error": of2(compress.Error(c.l, c.kept)),
			"Fits":  of(compress.Fits(door, c.l, c.kept)),
			"Ratio": of2(compress.Ratio(c.l, c.kept)),
		} {
			same(t, fmt.Sprint(name, len(c.l), c.kept), r.e, c.want)
		}
	}
}

func TestP22Keep(t *testing.T) {
	l := series{good(1, 5), bad(2), uncertain(7, -3)}
	for _, c := range []struct {
		kept []int
		want series
	}{
		{nil, nil},
		{[]int{1}, series{bad(2)}},
		{[]int{0, 2}, series{good(1, 5), uncertain(7, -3)}},
		{[]int{0, 1, 2}, l},
	} {
		got, e := compress.Keep(l, c.kept)
		same(t, fmt.Sprint("Keep of ", c.kept), []any{got, e}, []any{c.want, api.OK})
	}
	got, e := compress.Keep(nil, nil)
	same(t, "Keep of nothing", []any{got, e}, []any{series{}, api.OK})
	all, _ := compress.Steps(long(api.MaxSamples))
	got, e = compress.Keep(long(api.MaxSamples), all)
	same(t, "the longest series", []any{got, e}, []any{long(api.MaxSamples), api.OK})
}

func TestP22Ratio(t *testing.T) {
	for _, c := range []struct {
		n    int
		kept []int
		want api.Fraction
		is   bool
	}{
		{0, nil, api.Fraction{}, false},
		{4, nil, api.Fraction{}, false},
		{4, []int{0, 3}, api.Fraction{Num: 2, Den: 1}, true},
		{6, []int{0, 1, 2, 3}, api.Fraction{Num: 3, Den: 2}, true},
		{5, []int{1, 2, 3}, api.Fraction{Num: 5, Den: 3}, true},
		{1, []int{0}, api.Fraction{Num: 1, Den: 1}, true},
		{api.MaxSamples, []int{7}, api.Fraction{Num: api.MaxSamples, Den: 1}, true},
	} {
		got, is, e := compress.Ratio(long(c.n), c.kept)
		same(t, fmt.Sprint("Ratio of ", c.n, c.kept), []any{got, is, e}, []any{c.want, c.is, api.OK})
	}
}

func TestP22Reconstruct(t *testing.T) {
	l := series{good(10, 0), uncertain(20, 5), bad(30), good(40, -7), good(43, 0), good(44, 0)}
	for at, want := range map[int]api.Fraction{
		10: {Num: 0, Den: 1},
		11: {Num: 1, Den: 2},
		14: {Num: 2, Den: 1},
		19: {Num: 9, Den: 2},
		20: {Num: 5, Den: 1},
		40: {Num: -7, Den: 1},
		41: {Num: -14, Den: 3},
		42: {Num: -7, Den: 3},
		44: {Num: 0, Den: 1},
	} {
		got, ok, e := compress.Reconstruct(l, at)
		same(t, fmt.Sprint("at ", at), []any{got, ok, e}, []any{want, true, api.OK})
	}
	for name, at := range map[string]int{"before the first": 9, "the first moment": 0, "before a bad one": 25, "a bad one": 30, "after a bad one": 39, "after the last": 45, "the last moment": api.End - 1} {
		got, ok, e := compress.Reconstruct(l, at)
		same(t, name, []any{got, ok, e}, []any{api.Fraction{}, false, api.OK})
	}
	got, ok, e := compress.Reconstruct(nil, 5)
	same(t, "no samples", []any{got, ok, e}, []any{api.Fraction{}, false, api.OK})
	got, ok, e = compress.Reconstruct(series{good(0, 3), good(9, 3)}, 4)
	same(t, "a level line", []any{got, ok, e}, []any{api.Fraction{Num: 3, Den: 1}, true, api.OK})
}

func TestP22ReconstructErrors(t *testing.T) {
	for at, want := range map[int]api.Errno{0: api.OK, api.End - 1: api.OK, -1: api.ErrArg, api.End: api.ErrArg, math.MinInt: api.ErrArg, math.MaxInt: api.ErrArg} {
		got, ok, e := compress.Reconstruct(series{good(1, 1)}, at)
		same(t, fmt.Sprint("at ", at), []any{got, ok, e}, []any{api.Fraction{}, false, want})
		same(t, "a wrong series first", of2(compress.Reconstruct(series{{Quality: 7}}, at)).e, api.ErrKind)
	}
}

// TestP22ReconstructExact compares with fractions that cannot overflow.
func TestP22ReconstructExact(t *testing.T) {
	r := rand.New(rand.NewSource(5))
	check := func(l series, at int) {
		t.Helper()
		want, is := exact(l, at)
		got, ok, e := compress.Reconstruct(l, at)
		if e != api.OK || ok != is || is && got != asFraction(want) || !is && got != (api.Fraction{}) {
			t.Errorf("Reconstruct of %v at %d: %v, %v, %d, not %v, %v", l, at, got, ok, e, want, is)
		}
	}
	for range 300 {
		l := someSeries(r, 20)
		for at := range 20 {
			check(l, at)
		}
	}
	for range 2000 {
		check(series{good(r.Intn(9), api.MaxValue-r.Intn(9)), good(api.End-1-r.Intn(9), r.Intn(9)-api.MaxValue)}, r.Intn(api.End))
		check(wideSeries(r, 5, 9), r.Intn(api.End))
	}
}

func TestP22Error(t *testing.T) {
	for name, c := range map[string]struct {
		l    series
		kept []int
		most api.Fraction
		at   int
	}{
		"the example":           {example(), []int{0, 3}, api.Fraction{Num: 4, Den: 3}, 2},
		"all kept":              {example(), []int{0, 1, 2, 3}, api.Fraction{Num: 0, Den: 1}, 0},
		"one kept":              {example(), []int{2}, api.Fraction{Num: 0, Den: 1}, 2},
		"below the line":        {series{good(0, 0), good(1, -9), good(2, 0)}, []int{0, 2}, api.Fraction{Num: 9, Den: 1}, 1},
		"the first of equals":   {series{good(0, 0), good(1, 3), good(2, -3), good(3, 0)}, []int{0, 3}, api.Fraction{Num: 3, Den: 1}, 1},
		"outside is skipped":    {series{good(0, 99), good(1, 0), good(2, 1), good(3, 0), good(4, 99)}, []int{1, 3}, api.Fraction{Num: 1, Den: 1}, 2},
		"bad ones are skipped":  {series{good(0, 50), bad(1), good(2, 53), good(3, 50)}, []int{0, 3}, api.Fraction{Num: 3, Den: 1}, 2},
		"next to bad ones":      {series{bad(0), good(1, 50), good(2, 1), good(3, 1)}, []int{0, 2, 3}, api.Fraction{Num: 0, Den: 1}, 2},
		"none before, none off": {series{good(0, 50), good(1, 1), good(2, 1)}, []int{1, 2}, api.Fraction{Num: 0, Den: 1}, 1},
		"two lines":             {series{good(0, 0), good(1, 1), good(3, 0), good(4, 1), good(7, 0)}, []int{0, 2, 4}, api.Fraction{Num: 1, Den: 1}, 1},
	} {
		most, at, e := compress.Error(c.l, c.kept)
		same(t, name, []any{most, at, e}, []any{c.most, c.at, api.OK})
	}
	for name, c := range map[string]struct {
		l    series
		kept []int
	}{
		"no samples":            {nil, nil},
		"none kept":             {example(), nil},
		"bad ones alone":        {series{bad(0), bad(1)}, []int{0, 1}},
		"a bad one kept":        {series{good(0, 1), bad(1), good(2, 1)}, []int{1}},
		"between bad ones":      {series{bad(0), good(1, 1), bad(2)}, []int{0, 2}},
		"bad, between good":     {series{bad(0), good(1, 1), bad(2), bad(3)}, []int{0, 3}},
		"before and after kept": {series{good(0, 1), bad(1), bad(2), good(3, 1)}, []int{1, 2}},
	} {
		most, at, e := compress.Error(c.l, c.kept)
		same(t, name, []any{most, at, e}, []any{api.Fraction{}, 0, api.ErrNone})
	}
}

// TestP22ErrorExact compares with fractions that cannot overflow; also where products of two of them need more than 64 bits.
func TestP22ErrorExact(t *testing.T) {
	r := rand.New(rand.NewSource(6))
	check := func(l series, kept []int) {
		t.Helper()
		var most *big.Rat
		want := result{[]any{api.Fraction{}, 0}, api.ErrNone}
		samples, _ := compress.Keep(l, kept)
		for i, x := range l {
			value, ok := exact(samples, x.At)
			if !ok || x.Quality == api.Bad {
				continue
			}
			if d := off(x.Value, value); most == nil || d.Cmp(most) > 0 {
				most, want = d, result{[]any{asFraction(d), i}, api.OK}
			}
		}
		same(t, fmt.Sprint("Error of ", l, kept), of2(compress.Error(l, kept)), want)
	}
	for range 1000 {
		l := someSeries(r, 15)
		check(l, someKept(r, len(l)))
	}
	for range 1000 {
		l := wideSeries(r, 3+r.Intn(9), 1+r.Intn(9))
		check(l, someKept(r, len(l)))
	}
	// Two lines over thousands of days, next to each other, whose errors differ by less than a float can tell.
	for range 500 {
		half := api.End/2 - 3 - r.Intn(9)
		l := series{good(0, 0), good(half-7-r.Intn(3), 1), good(half, api.MaxValue), good(half+7+r.Intn(3), 1), good(2*half+r.Intn(5)-2, 0)}
		check(l, []int{0, 2, 4})
	}
}

// TestP22KeptSamplesAreExact: a reconstruction at the moment of a kept sample is its value.
func TestP22KeptSamplesAreExact(t *testing.T) {
	r := rand.New(rand.NewSource(7))
	for range 200 {
		l := someSeries(r, 20)
		kept := someKept(r, len(l))
		samples, _ := compress.Keep(l, kept)
		for _, x := range samples {
			got, ok, _ := compress.Reconstruct(samples, x.At)
			if ok != (x.Quality != api.Bad) || ok && got != (api.Fraction{Num: x.Value, Den: 1}) {
				t.Errorf("at %v: %v, %v", x, got, ok)
			}
		}
	}
}
