package compress_test

import (
	"fmt"
	"math"
	"math/rand"
	"slices"
	"sync"
	"testing"

	"plantlog/api"
	"plantlog/compress"
)

// result is what a call returned: all but the error, and the error.
type result struct {
	value any
	e     api.Errno
}

func of[T any](value T, e api.Errno) result { return result{value, e} }

func of2[T, U any](a T, b U, e api.Errno) result { return result{[]any{a, b}, e} }

func second[T any](_ T, e api.Errno) api.Errno { return e }

// everyCall calls each function of the package with the arguments it takes of these, and a new compressor with the series.
func everyCall(x api.Exception, d api.Door, l series, kept []int, at int) []result {
	c, e := compress.New(d)
	r := []result{
		{nil, compress.CheckException(x)},
		{nil, compress.CheckDoor(d)},
		of(compress.Report(x, l)),
		of(compress.Compress(d, l)),
		of(compress.Keep(l, kept)),
		of2(compress.Reconstruct(l, at)),
		of2(compress.Error(l, kept)),
		of(compress.Fits(d, l, kept)),
		of(compress.Minimum(d, l)),
		of(compress.Steps(l)),
		of2(compress.Ratio(l, kept)),
		{nil, e},
	}
	if e != api.OK {
		return r
	}
	for _, s := range l {
		r = append(r, of(c.Add(s)))
	}
	return append(r, result{c.Flush(), api.OK})
}

func someInt(r *rand.Rand) int {
	list := []int{math.MinInt, math.MinInt + 1, -api.End, -2*api.MaxValue - 1, -api.MaxValue, -1, 0, 1, 2, 3, 5, 9, api.MaxValue, 2 * api.MaxValue, 2*api.MaxValue + 1, api.MaxGapLong, api.MaxGapLong + 1, api.End - 1, api.End, math.MaxInt - 1, math.MaxInt}
	return list[r.Intn(len(list))]
}

// TestZ1Z3Z6AllInts: with whatever ints, each call returns, and with an error all else is zero.
func TestZ1Z3Z6AllInts(t *testing.T) {
	r := rand.New(rand.NewSource(10))
	zero := []string{"<nil>", "[]", "false", "[{0 0} 0]", "[{0 0} false]", "[{Num:0 Den:0} 0]", "[{Num:0 Den:0} false]"}
	fails, works := 0, 0
	for range 3000 {
		l := someSeries(r, 8)
		kept := someKept(r, len(l))
		if i := r.Intn(12); i < len(l) {
			l[i] = api.Sample{At: someInt(r), Value: someInt(r), Quality: someInt(r)}
		}
		if i := r.Intn(12); i < len(kept) {
			kept[i] = someInt(r)
		}
		x, d := api.Exception{Deadband: someInt(r), MaxGap: someInt(r)}, api.Door{Deviation: someInt(r), MaxGap: someInt(r)}
		for _, y := range everyCall(x, d, l, kept, someInt(r)) {
			if y.e == api.OK {
				works++
				continue
			}
			fails++
			if s := fmt.Sprintf("%+v", y.value); !slices.Contains(zero, s) {
				t.Errorf("with error %d: %s", y.e, s)
			}
		}
	}
	if fails == 0 || works == 0 {
		t.Errorf("%d calls fail, %d work", fails, works)
	}
}

func TestZ1ManyElements(t *testing.T) {
	const most = 200_000
	x, d := api.Exception{Deadband: 1, MaxGap: 9}, api.Door{Deviation: 1, MaxGap: 9}
	for _, r := range everyCall(x, d, long(most), make([]int, most), 5) {
		if r.e != api.OK && r.e != api.ErrLarge {
			t.Errorf("error %d", r.e)
		}
	}
	for _, r := range everyCall(x, d, long(api.MaxSamples), make([]int, most), 5) {
		if r.e != api.OK && r.e != api.ErrLarge {
			t.Errorf("error %d", r.e)
		}
	}
}

// ordinary returns the results of all calls with arguments that each call can work with, made anew.
func ordinary(look func(l series, kept []int)) []result {
	l := series{good(1, 5), good(2, 6), good(3, 6), uncertain(4, 5), bad(6), bad(7), bad(8), good(9, -9), good(10, -3), good(11, 0)}
	kept := []int{0, 2, 3, 4, 6, 7, 9}
	l, kept = append(l, good(99, 9))[:10], append(kept, -7)[:7]
	look(l, kept)
	return everyCall(api.Exception{Deadband: 2, MaxGap: 9}, api.Door{Deviation: 2, MaxGap: 9}, l, kept, 2)
}

func TestOrdinaryCallsWork(t *testing.T) {
	for i, x := range ordinary(func(series, []int) {}) {
		same(t, fmt.Sprintf("call %d", i), x.e, api.OK)
	}
}

func TestZ2ArgumentsAreNotModified(t *testing.T) {
	var l, before series
	var kept, keptBefore []int
	ordinary(func(a series, b []int) {
		l, kept = a[:cap(a)], b[:cap(b)]
		before, keptBefore = slices.Clone(l), slices.Clone(kept)
	})
	same(t, "the arguments", []any{l, kept}, []any{before, keptBefore})
}

func TestZ2ResultsAreNewMemory(t *testing.T) {
	var kept []any
	first := ordinary(func(l series, k []int) { kept = []any{l, k} })
	before := fmt.Sprint(kept, ordinary(func(series, []int) {}))
	for _, x := range first {
		switch list := x.value.(type) {
		case series:
			spoil(list, api.Sample{At: -7, Value: -7})
		case []int:
			spoil(list, -7)
		}
	}
	same(t, "after the results were changed", fmt.Sprint(kept, ordinary(func(series, []int) {})), before)
}

// spoil overwrites a list, and what memory it has after its end.
func spoil[T any](list []T, x T) {
	list = list[:cap(list)]
	for i := range list {
		list[i] = x
	}
}

// TestZ4OrderOfErrors: the door or exception first, then the series, the indices, and what a function has of its own.
func TestZ4OrderOfErrors(t *testing.T) {
	door, wrong := api.Door{Deviation: 1, MaxGap: 9}, series{{Quality: 7}}
	for name, c := range map[string][2]api.Errno{
		"exception before series":  {second(compress.Report(api.Exception{}, wrong)), api.ErrArg},
		"door before series":       {second(compress.Compress(api.Door{}, wrong)), api.ErrArg},
		"door before kept":         {second(compress.Fits(api.Door{}, nil, []int{1, 1})), api.ErrArg},
		"series before kept":       {second(compress.Fits(door, wrong, []int{1, 1})), api.ErrKind},
		"number before indices":    {second(compress.Keep(example(), []int{-1, 1, 2, 3, 3})), api.ErrLarge},
		"index before order":       {second(compress.Keep(example(), []int{2, -1})), api.ErrArg},
		"order before next index":  {second(compress.Keep(example(), []int{2, 2, -1})), api.ErrOrder},
		"kept before none":         {of2(compress.Error(series{bad(0)}, []int{1})).e, api.ErrArg},
		"series before moment":     {of2(compress.Reconstruct(wrong, -1)).e, api.ErrKind},
		"series before its length": {second(compress.Minimum(door, append(long(api.MaxOptimal), wrong...))), api.ErrKind},
	} {
		same(t, name, c[0], c[1])
	}
	c := newCompressor(t, door)
	c.Add(good(5, 5))
	same(t, "sample before order", second(c.Add(api.Sample{At: 5, Quality: 7})), api.ErrKind)
}

func TestZ5EmptyAndNil(t *testing.T) {
	x, d := api.Exception{MaxGap: 1}, api.Door{MaxGap: 1}
	none, empty := everyCall(x, d, nil, nil, 5), everyCall(x, d, series{}, []int{}, 5)
	same(t, "empty lists", empty, none)
}

func TestZ1Z7ManyAtOnce(t *testing.T) {
	want := fmt.Sprint(ordinary(func(series, []int) {}))
	var l series
	var kept []int
	ordinary(func(a series, b []int) { l, kept = a, b })
	var all sync.WaitGroup
	got := make([]string, 8)
	for i := range got {
		all.Go(func() {
			for range 50 {
				got[i] = fmt.Sprint(everyCall(api.Exception{Deadband: 2, MaxGap: 9}, api.Door{Deviation: 2, MaxGap: 9}, l, kept, 2))
			}
		})
	}
	all.Wait()
	for _, s := range got {
		same(t, "at once", s, want)
	}
}
