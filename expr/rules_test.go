package expr_test

import (
	"fmt"
	"math"
	"math/rand"
	"strings"
	"sync"
	"testing"
	"time"

	"plantlog/api"
	"plantlog/expr"
)

// result is what a call returned: all but the error, and the error.
type result struct {
	name  string
	value any
	e     api.Errno
}

// arguments are what all functions together take.
type arguments struct {
	s      string
	series []api.Series
	at     int
	c      calcs
	tag    string
	w      api.Window
}

// valid returns arguments that each call can work with, made anew.
func valid() arguments {
	l := append(samples{good(1, 5), uncertain(4, 7), bad(6), good(8, 9)}, good(-9, 9))[:4]
	series := append([]api.Series{{Tag: "a", Samples: l}, {Tag: "b", Samples: samples{good(2, 3)}}}, api.Series{Tag: "B"})[:2]
	c := append(calculated("x: y + b; y: a@1 * 2"), api.Calc{})[:2]
	return arguments{s: "a + b@1", series: series, at: 8, c: c, tag: "x", w: window(2, 20)}
}

// everyCall calls each function of the package.
func everyCall(x arguments) []result {
	at, e1 := expr.Check(x.s)
	format, formatAt, e2 := expr.Format(x.s)
	tags, tagsAt, e3 := expr.Tags(x.s)
	depth, depthAt, e4 := expr.Depth(x.s)
	value, e5 := expr.Eval(x.s, x.series, x.at)
	n, ok, e6 := expr.Constant(x.s)
	order, e7 := expr.Order(x.c)
	cycle, e8 := expr.Cycle(x.c)
	affected, e9 := expr.Affects(x.c, x.tag)
	values, e10 := expr.Values(x.c, x.series, x.at)
	moments, e11 := expr.Moments(x.s, x.series, x.w)
	run, e12 := expr.Run(x.c, x.series, x.tag, x.w)
	return []result{
		{"Check", at, e1},
		{"Format", []any{format, formatAt}, e2},
		{"Tags", []any{tags, tagsAt}, e3},
		{"Depth", []any{depth, depthAt}, e4},
		{"Eval", value, e5},
		{"Constant", []any{n, ok}, e6},
		{"CheckCalcs", nil, expr.CheckCalcs(x.c)},
		{"Order", order, e7},
		{"Cycle", cycle, e8},
		{"Affects", affected, e9},
		{"Values", values, e10},
		{"Moments", moments, e11},
		{"Run", run, e12},
	}
}

// hasOffset reports whether a result has the offset of an error, which need not be zero.
func (x result) hasOffset() bool {
	return strings.Contains("Check Format Tags Depth", x.name)
}

func expectZero(t *testing.T, x result) {
	t.Helper()
	zero := map[string]string{"Eval": fmt.Sprint(api.Sample{}), "Constant": "[0 false]", "CheckCalcs": "<nil>"}
	want, ok := zero[x.name]
	if !ok {
		want = "[]"
	}
	if s := fmt.Sprint(x.value); s != want && !x.hasOffset() {
		t.Errorf("%s with error %d: %s", x.name, x.e, s)
	}
}

func TestOrdinaryCallsWork(t *testing.T) {
	got := fmt.Sprint(everyCall(valid()))
	want := "[{Check 0 0} {Format [a + b@1 0] 0} {Tags [[a b] 0] 0} {Depth [2 0] 0} {Eval {8 12 0} 0} {Constant [0 false] 0} {CheckCalcs <nil> 0} " +
		"{Order [y x] 0} {Cycle [] 0} {Affects [] 0} {Values [{x 0 bad} {y 0 bad}] 0} {Moments [2 3 4 6 8] 0} {Run [{2 13 0} {5 17 1} {7 0 2} {9 21 0}] 0}]"
	same(t, "all calls", got, want)
}

func someInt(r *rand.Rand) int {
	list := []int{math.MinInt, math.MinInt + 1, -api.End, -api.MaxValue - 1, -1, 0, 1, 2, 3, 5, 9, api.MaxValue, api.MaxValue + 1, api.MaxShift, api.End - 1, api.End, math.MaxInt - 1, math.MaxInt}
	return list[r.Intn(len(list))]
}

// TestZ1Z3Z6AllInts: with whatever arguments, each call returns, and with an error all else is zero.
func TestZ1Z3Z6AllInts(t *testing.T) {
	r := rand.New(rand.NewSource(60))
	fails, works := 0, 0
	words := strings.Fields("a b x y if( max( , ) ( - + * / < = @ 5 86400000 01 $")
	for range 4000 {
		x := valid()
		x.at, x.w = someInt(r), window(someInt(r), someInt(r))
		if i := r.Intn(8); i < 4 {
			x.series[0].Samples[i] = api.Sample{At: someInt(r), Value: someInt(r), Quality: someInt(r)}
		}
		if r.Intn(2) == 0 {
			x.s = ""
			for range r.Intn(9) {
				x.s += words[r.Intn(len(words))]
			}
			x.c[r.Intn(2)].Expr = x.s
		}
		x.tag = []string{"", "a", "x", "y", "X"}[r.Intn(5)]
		for _, y := range everyCall(x) {
			if y.e != api.OK {
				fails++
				expectZero(t, y)
				continue
			}
			works++
		}
	}
	if fails < 1000 || works < 1000 {
		t.Errorf("%d calls fail, %d work", fails, works)
	}
}

func TestZ1ManyElements(t *testing.T) {
	const most = 200_000
	x := arguments{s: strings.Repeat("a+", most/2), series: make([]api.Series, most), c: make(calcs, most), tag: strings.Repeat("a", most)}
	for _, y := range everyCall(x) {
		same(t, y.name, y.e, api.ErrLarge)
	}
	x = valid()
	x.series[0].Samples = make(samples, most)
	for _, y := range everyCall(x) {
		want := api.OK
		if strings.Contains("Eval Values Moments Run", y.name) {
			want = api.ErrLarge
		}
		same(t, y.name, y.e, want)
	}
	x = valid()
	x.tag = strings.Repeat("a", most)
	_, e := expr.Affects(x.c, x.tag)
	same(t, "Affects", e, api.ErrName)
}

// TestZ1TheGreatestRun: as many shifted tags and moments as there can be, with expressions as long as they can be.
func TestZ1TheGreatestRun(t *testing.T) {
	filled := func(s string) string { return s + strings.Repeat("+a", (api.MaxExpr-len(s))/2) }
	c := manyCalcs(44, func(i int) string {
		if i == 0 {
			return filled("a")
		}
		return filled(fmt.Sprintf("x%03d/999-x%03d@1", i-1, i-1))
	})
	l := samples{}
	for i := range api.MaxSamples - 43 {
		l = append(l, good(i, i%9))
	}
	start := time.Now()
	run, e := expr.Run(c, one("a", l...), "x043", window(0, api.End))
	if len(run) < 4_000 || e != api.OK || time.Since(start) > time.Minute {
		t.Errorf("%d samples, error %d, after %v", len(run), e, time.Since(start))
	}
	all, e := expr.Values(c, one("a", l...), api.End-1)
	same(t, "Values", []any{len(all), e}, []any{44, api.OK})
	moments, e := expr.Moments(strings.Repeat("a@86400000+", 45)+"a", one("a", l...), window(0, api.End))
	same(t, "Moments", []any{len(moments), e}, []any{2 * len(l), api.OK})
}

func TestZ2ArgumentsAreNotModified(t *testing.T) {
	x, y := valid(), valid()
	everyCall(x)
	same(t, "the arguments", []any{x.series[:3], x.series[0].Samples[:5], x.c[:3]}, []any{y.series[:3], y.series[0].Samples[:5], y.c[:3]})
}

func TestZ2ResultsAreNewMemory(t *testing.T) {
	x := valid()
	first := everyCall(x)
	loop := calculated("x: x")
	cycle, _ := expr.Cycle(loop)
	affected, _ := expr.Affects(loop, "x")
	before := fmt.Sprint(everyCall(valid()))
	for _, y := range append(first, result{value: cycle}, result{value: affected}) {
		parts, ok := y.value.([]any)
		if !ok {
			parts = []any{y.value}
		}
		for _, part := range parts {
			switch list := part.(type) {
			case names:
				spoil(list, "spoiled")
			case samples:
				spoil(list, good(-7, -7))
			case []int:
				spoil(list, -7)
			case []api.Pair:
				spoil(list, api.Pair{Name: "spoiled"})
			}
		}
	}
	same(t, "the arguments", []any{x.series, x.c, loop}, []any{valid().series, valid().c, calculated("x: x")})
	same(t, "after the results were changed", fmt.Sprint(everyCall(x)), before)
}

// spoil overwrites a list, and what memory it has after its end.
func spoil[T any](list []T, x T) {
	list = list[:cap(list)]
	for i := range list {
		list[i] = x
	}
}

func TestZ5EmptyAndNil(t *testing.T) {
	none, empty := valid(), valid()
	none.series, none.c = nil, nil
	empty.series, empty.c = []api.Series{}, calcs{}
	same(t, "empty lists", everyCall(empty), everyCall(none))
	for _, x := range everyCall(none) {
		want := api.OK
		if x.name == "Run" {
			want = api.ErrNone
		}
		same(t, x.name, x.e, want)
	}
	none, empty = valid(), valid()
	none.series[0].Samples, empty.series[0].Samples = nil, samples{}
	same(t, "empty series", everyCall(empty), everyCall(none))
}

// TestZ10Formatted: what Format writes it leaves as it is, and Check accepts it.
func TestZ10Formatted(t *testing.T) {
	for _, s := range []string{"a + b * 2 - c", "a - (b - c)", "--a", "max(a, b@1000) < 3", "if(a = 1, -b, c)"} {
		again, _, e := expr.Format(s)
		same(t, s, []any{again, e}, []any{s, api.OK})
		_, e = expr.Check(again)
		same(t, s, e, api.OK)
	}
}

func TestZ1Z7ManyAtOnce(t *testing.T) {
	x := valid()
	want := fmt.Sprint(everyCall(x))
	var all sync.WaitGroup
	got := make([]string, 8)
	for i := range got {
		all.Go(func() {
			for range 50 {
				got[i] = fmt.Sprint(everyCall(x))
			}
		})
	}
	all.Wait()
	for _, s := range got {
		same(t, "at once", s, want)
	}
}
