package query_test

import (
	"fmt"
	"math"
	"math/rand"
	"slices"
	"sync"
	"testing"

	"plantlog/api"
	"plantlog/query"
)

// result is what a call returned: all but the error, and the error.
type result struct {
	name  string
	value any
	e     api.Errno
}

func of[T any](name string, value T, e api.Errno) result { return result{name, value, e} }

// arguments are what all functions together take.
type arguments struct {
	a, b          series
	stepped       bool
	w             api.Window
	at, every     int
	limit, within int
	worst, roll   int
	quality       int
}

// valid returns arguments that each call can work with, made anew.
func valid() arguments {
	counter := append(series{good(1, 5), uncertain(4, 7), bad(6), good(8, 9), good(11, 3)}, good(-9, 9))[:5]
	return arguments{a: counter, b: append(series{good(2, 1), good(7, 6)}, bad(0))[:2], w: window(2, 20), at: 3, every: 4, limit: 6, within: 2, worst: api.Uncertain, roll: 10, quality: api.Good}
}

// everyCall calls each function of the package.
func everyCall(x arguments) []result {
	point, hasPoint, e1 := query.ValueAt(x.a, x.stepped, x.at)
	points, e2 := query.Points(x.a, x.stepped, x.w, x.every)
	return append(everyCallOfWindows(x), of("ValueAt", []any{point, hasPoint}, e1), of("Points", points, e2))
}

// everyCallOfWindows calls each function but those of Points and ValueAt.
func everyCallOfWindows(x arguments) []result {
	times, e1 := query.Crossings(x.a, x.w, x.limit)
	change, hasChange, e2 := query.Change(x.a, x.stepped, x.w)
	sum, long, e3 := query.Integral(x.a, x.w)
	average, hasAverage, e4 := query.Average(x.a, x.w)
	low, high, hasExtremes, e5 := query.Extremes(x.a, x.w)
	median, hasMedian, e6 := query.Median(x.a, x.w)
	goodTime, e7 := query.GoodTime(x.a, x.w, x.worst)
	buckets, e8 := query.Buckets(x.a, x.w, x.every)
	above, total, e9 := query.Above(x.a, x.w, x.limit)
	increase, e10 := query.Total(x.a, x.w, x.roll)
	count, e11 := query.Count(x.a, x.w, x.quality)
	both, apart, e12 := query.Compare(x.a, x.b, x.w, x.within)
	return []result{
		of("Crossings", times, e1),
		of("Change", []any{change, hasChange}, e2),
		of("Integral", []any{sum, long}, e3),
		of("Average", []any{average, hasAverage}, e4),
		of("Extremes", []any{low, high, hasExtremes}, e5),
		of("Median", []any{median, hasMedian}, e6),
		of("GoodTime", goodTime, e7),
		of("Buckets", buckets, e8),
		of("Above", []any{above, total}, e9),
		of("Total", increase, e10),
		of("Count", count, e11),
		of("Compare", []any{both, apart}, e12),
	}
}

// zeroValues are what results are with an error.
func zeroValues() []string {
	return []string{"0", "[]", "[0 0]", "[0 false]", "[0 0 false]", "[[] 0]", "[{Num:0 Den:0} false]", "[{At:0 Value:{Num:0 Den:0} Quality:0} false]"}
}

func expectZero(t *testing.T, x result) {
	t.Helper()
	if s := fmt.Sprintf("%+v", x.value); !slices.Contains(zeroValues(), s) {
		t.Errorf("%s with error %d: %s", x.name, x.e, s)
	}
}

func TestOrdinaryCallsWork(t *testing.T) {
	for _, x := range everyCall(valid()) {
		same(t, x.name, x.e, api.OK)
		if s := fmt.Sprintf("%+v", x.value); slices.Contains(zeroValues(), s) {
			t.Errorf("%s: %s", x.name, s)
		}
	}
}

// TestP41SeriesFirst: the error of the series comes before all others.
func TestP41SeriesFirst(t *testing.T) {
	for name, c := range map[string]struct {
		l    series
		want api.Errno
	}{
		"too many":     {make(series, api.MaxSamples+1), api.ErrLarge},
		"no moment":    {series{good(api.End, 0)}, api.ErrArg},
		"no quality":   {series{{Quality: 3}}, api.ErrKind},
		"bad":          {series{{Value: 1, Quality: api.Bad}}, api.ErrForm},
		"out of order": {series{good(5, 0), good(5, 0)}, api.ErrOrder},
	} {
		others := arguments{w: window(5, 4), at: -1, every: -1, limit: math.MaxInt, within: -1, worst: 7, roll: -1, quality: 7}
		others.a = c.l
		all := valid()
		all.a = c.l
		for _, x := range append(everyCall(all), everyCall(others)...) {
			same(t, name+": "+x.name, x.e, c.want)
			expectZero(t, x)
		}
		_, _, e := query.Compare(valid().a, c.l, window(5, 4), -1)
		same(t, name+": the second series", e, c.want)
	}
	_, _, e := query.Compare(series{{Quality: 3}}, series{good(-1, 0)}, window(0, 9), 0)
	same(t, "the first series first", e, api.ErrKind)
}

// TestP41WindowsNext: after the series, before all others.
func TestP41WindowsNext(t *testing.T) {
	for _, w := range wrongWindows() {
		x, y := valid(), valid()
		x.w, y.w = w, w
		y.every, y.limit, y.within, y.worst, y.roll, y.quality = 0, math.MinInt, -1, 2, 0, 9
		for _, r := range append(everyCallOfWindows(x), everyCallOfWindows(y)...) {
			same(t, fmt.Sprint(r.name, w), r.e, api.ErrArg)
			expectZero(t, r)
		}
		_, e := query.Points(x.a, false, w, 1)
		same(t, fmt.Sprint("Points", w), e, api.ErrArg)
	}
	for _, w := range []api.Window{window(0, 0), window(0, api.End), window(api.End, api.End)} {
		x := valid()
		x.w, x.every = w, api.DayLong
		for _, r := range everyCallOfWindows(x) {
			if r.name == "Change" {
				continue
			}
			same(t, fmt.Sprint(r.name, w), r.e, api.OK)
		}
	}
}

func someInt(r *rand.Rand) int {
	list := []int{math.MinInt, math.MinInt + 1, -api.End, -2*api.MaxValue - 1, -api.MaxValue - 1, -api.MaxValue, -1, 0, 1, 2, 3, 5, 9, api.MaxValue, api.MaxValue + 1, 2 * api.MaxValue, api.DayLong, api.MaxRoll, api.MaxRoll + 1, api.End - 1, api.End, math.MaxInt - 1, math.MaxInt}
	return list[r.Intn(len(list))]
}

// TestZ1Z3Z6AllInts: with whatever ints, each call returns, and with an error or without a value all else is zero.
func TestZ1Z3Z6AllInts(t *testing.T) {
	r := rand.New(rand.NewSource(50))
	fails, works := 0, 0
	for range 4000 {
		x := arguments{a: someSeries(r, 12), b: someSeries(r, 12), stepped: r.Intn(2) == 0, w: window(someInt(r), someInt(r)), at: someInt(r), every: someInt(r), limit: someInt(r), within: someInt(r), worst: someInt(r), roll: someInt(r), quality: someInt(r)}
		for _, l := range []series{x.a, x.b} {
			if i := r.Intn(40); i < len(l) {
				l[i] = api.Sample{At: someInt(r), Value: someInt(r), Quality: someInt(r)}
			}
		}
		for _, y := range everyCall(x) {
			if y.e != api.OK {
				fails++
				expectZero(t, y)
				continue
			}
			works++
			parts, _ := y.value.([]any)
			if n := len(parts); n > 0 && parts[n-1] == false {
				expectZero(t, y)
			}
		}
	}
	if fails < 1000 || works < 1000 {
		t.Errorf("%d calls fail, %d work", fails, works)
	}
}

func TestZ1ManyElements(t *testing.T) {
	x := valid()
	x.a, x.b = long(200_000), long(200_000)
	for _, y := range everyCall(x) {
		same(t, y.name, y.e, api.ErrLarge)
	}
	x.a, x.b, x.w, x.every, x.roll = long(api.MaxSamples), long(api.MaxSamples), window(0, api.MaxSamples), 1, api.MaxRoll
	for _, y := range everyCall(x) {
		same(t, y.name, y.e, api.OK)
	}
}

func TestZ2ArgumentsAreNotModified(t *testing.T) {
	x := valid()
	everyCall(x)
	y := valid()
	same(t, "the arguments", []any{x.a[:6], x.b[:3]}, []any{y.a[:6], y.b[:3]})
}

func TestZ2ResultsAreNewMemory(t *testing.T) {
	x := valid()
	first := everyCall(x)
	before := fmt.Sprint(everyCall(valid()))
	for _, y := range first {
		parts, ok := y.value.([]any)
		if !ok {
			parts = []any{y.value}
		}
		for _, part := range parts {
			switch list := part.(type) {
			case windows:
				spoil(list, window(-7, -7))
			case fractions:
				spoil(list, fraction(-7, -7))
			case []api.Point:
				spoil(list, api.Point{At: -7})
			case []api.Bucket:
				spoil(list, api.Bucket{Good: -7})
			}
		}
	}
	same(t, "the arguments", []any{x.a, x.b}, []any{valid().a, valid().b})
	same(t, "after the results were changed", fmt.Sprint(everyCall(x)), before)
}

// spoil overwrites a list, and what memory it has after its end.
func spoil[T any](list []T, x T) {
	list = list[:cap(list)]
	for i := range list {
		list[i] = x
	}
}

// TestZ2MemoryAfterTheLength: what lies behind the last sample is no next one.
func TestZ2MemoryAfterTheLength(t *testing.T) {
	x := valid()
	behind := append(slices.Clone(x.a), good(12, 100), good(13, -100))[:len(x.a)]
	want := fmt.Sprint(everyCall(x))
	x.a = behind
	same(t, "with other samples behind", fmt.Sprint(everyCall(x)), want)
}

func TestZ5EmptyAndNil(t *testing.T) {
	none, empty := valid(), valid()
	none.a, none.b, empty.a, empty.b = nil, nil, series{}, series{}
	same(t, "empty lists", everyCall(empty), everyCall(none))
	for _, x := range everyCall(none) {
		same(t, x.name, x.e, api.OK)
	}
}

func TestZ1Z7ManyAtOnce(t *testing.T) {
	x := valid()
	want := fmt.Sprint(everyCall(x))
	var all sync.WaitGroup
	got := make([]string, 8)
	for i := range got {
		all.Go(func() {
			for range 50 {
				got[i] = fmt.Sprint(everyCall(x))
			}
		})
	}
	all.Wait()
	for _, s := range got {
		same(t, "at once", s, want)
	}
}
