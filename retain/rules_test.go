package retain_test

import (
	"fmt"
	"math"
	"math/rand"
	"slices"
	"strings"
	"sync"
	"testing"
	"time"

	"plantlog/api"
	"plantlog/retain"
)

// result is what a call returned: all but the error, and the error.
type result struct {
	name  string
	value []any
	e     api.Errno
}

// arguments are what all functions together take.
type arguments struct {
	l           levels
	h           holds
	tag         string
	s           samples
	moment, at  int
	a, b        bins
	step, to    int
	w           api.Window
	every       int
	rate, quota int
	text        string
}

// valid returns arguments that each call can work with, made anew, with something else behind each list.
func valid() arguments {
	return arguments{
		l:      append(levels{level(0, 20), level(10, 100), level(20, 200)}, level(-7, -7))[:3],
		h:      append(holds{hold("a", "t", 5, 8, 20, 300), hold("b", "", 30, 40, 100, 200)}, hold("", "", -7, -7, -7, -7))[:2],
		tag:    "t",
		s:      append(samples{good(5, 1), good(7, 2), bad(12), uncertain(25, 3)}, good(-7, 0))[:4],
		moment: 7,
		at:     60,
		a:      append(bins{bin(0, 3, 2, 0, 1, 2), bin(10, 0, 0, 1, 0, 0)}, bin(-7, 0, 0, 0, 0, 0))[:2],
		b:      append(bins{bin(10, 5, 1, 0, 5, 5), bin(30, -4, 2, 0, -3, -1)}, bin(-7, 0, 0, 0, 0, 0))[:2],
		step:   10,
		to:     20,
		w:      window(0, 40),
		every:  40,
		rate:   1_000_000,
		quota:  30,
		text:   "0 3 2 0 1 2\n",
	}
}

// everyCall calls each function of the package.
func everyCall(x arguments) []result {
	rolled, e1 := retain.Bins(x.s, x.step)
	coarser, e2 := retain.Coarser(x.a, x.step, x.to)
	merged, e3 := retain.MergeBins(x.a, x.b, x.step)
	held, e4 := retain.Held(x.h, x.tag, x.moment, x.at)
	list, e5 := retain.Levels(x.l, x.h, x.tag, x.moment, x.at)
	left, purged, e6 := retain.Purge(x.l, x.h, x.tag, x.s, x.at)
	answer, has, e7 := retain.Answer(x.l, x.h, x.tag, x.w, x.every, x.at)
	sum, count, e8 := retain.Sum(x.b, x.step, x.w)
	mean, is, e9 := retain.Mean(x.b, x.step, x.w)
	cost, e10 := retain.Cost(x.l, x.rate)
	fitted, fits, e11 := retain.Fit(x.l, x.rate, x.quota)
	end, ends, e12 := retain.Ends(x.l, x.h, x.tag, x.moment)
	text, e13 := retain.Text(x.b, x.step)
	read, line, e14 := retain.Read(x.step, x.text)
	return []result{
		{"CheckLevels", nil, retain.CheckLevels(x.l)},
		{"Bins", []any{rolled}, e1},
		{"CheckBins", nil, retain.CheckBins(x.a, x.step)},
		{"Coarser", []any{coarser}, e2},
		{"MergeBins", []any{merged}, e3},
		{"CheckHolds", nil, retain.CheckHolds(x.h)},
		{"Held", []any{held}, e4},
		{"Levels", []any{list}, e5},
		{"Purge", []any{left, purged}, e6},
		{"Answer", []any{answer, has}, e7},
		{"Sum", []any{sum, count}, e8},
		{"Mean", []any{mean, is}, e9},
		{"Cost", []any{cost}, e10},
		{"Fit", []any{fitted, fits}, e11},
		{"Ends", []any{end, ends}, e12},
		{"Text", []any{text}, e13},
		{"Read", []any{read, line}, e14},
	}
}

func expectZero(t *testing.T, x result) {
	t.Helper()
	if x.name == "Read" && x.e == api.ErrSyntax {
		return
	}
	zero := map[string]string{"Held": "[false]", "Purge": "[[] []]", "Answer": "[0 false]", "Sum": "[0 0]", "Mean": "[{Num:0 Den:0} false]", "Cost": "[0]", "Fit": "[[] false]", "Ends": "[0 false]", "Text": "[]", "Read": "[[] 0]", "CheckLevels": "[]", "CheckBins": "[]", "CheckHolds": "[]"}
	want, ok := zero[x.name]
	if !ok {
		want = "[[]]"
	}
	same(t, fmt.Sprintf("%s with error %d", x.name, x.e), x.value, want)
}

func TestOrdinaryCallsWork(t *testing.T) {
	want := map[string]string{
		"Bins":      "[[{From:0 Sum:3 Count:2 Other:0 Low:1 High:2} {From:10 Sum:0 Count:0 Other:1 Low:0 High:0} {From:20 Sum:0 Count:0 Other:1 Low:0 High:0}]]",
		"Coarser":   "[[{From:0 Sum:3 Count:2 Other:1 Low:1 High:2}]]",
		"MergeBins": "[[{From:0 Sum:3 Count:2 Other:0 Low:1 High:2} {From:10 Sum:5 Count:1 Other:1 Low:5 High:5} {From:30 Sum:-4 Count:2 Other:0 Low:-3 High:-1}]]",
		"Held":      "[true]", "Levels": "[[0 1 2]]",
		"Purge":  "[[{At:5 Value:1 Quality:0} {At:7 Value:2 Quality:0}] [[{From:0 Sum:3 Count:2 Other:0 Low:1 High:2} {From:10 Sum:0 Count:0 Other:1 Low:0 High:0} {From:20 Sum:0 Count:0 Other:1 Low:0 High:0}] [{From:0 Sum:3 Count:2 Other:1 Low:1 High:2} {From:20 Sum:0 Count:0 Other:1 Low:0 High:0}]]]",
		"Answer": "[2 true]", "Sum": "[1 3]", "Mean": "[{Num:1 Den:3} true]", "Cost": "[28]",
		"Fit":  "[[{Step:0 Keep:20} {Step:10 Keep:100} {Step:20 Keep:200}] true]",
		"Ends": "[300 true]", "Text": "[10 5 1 0 5 5\n30 -4 2 0 -3 -1\n]", "Read": "[[{From:0 Sum:3 Count:2 Other:0 Low:1 High:2}] 0]",
	}
	for _, x := range everyCall(valid()) {
		same(t, x.name, x.e, api.OK)
		if len(x.value) > 0 {
			same(t, x.name, x.value, want[x.name])
		}
	}
}

func someInt(r *rand.Rand) int {
	list := []int{math.MinInt, math.MinInt + 1, -api.End, -api.MaxValue - 1, -api.MaxValue, -10, -1, 0, 1, 2, 3, 5, 7, 10, 20, 40, 60, 100, most, most + 1, api.MaxValue, api.MaxValue + 1, api.MaxQuota, api.DayLong, api.DayLong + 1, most * api.MaxValue, most*api.MaxValue + 1, api.End - api.DayLong, api.End - 1, api.End, api.End + 1, math.MaxInt - 1, math.MaxInt}
	return list[r.Intn(len(list))]
}

// spoiled returns valid arguments in which some numbers are any.
func spoiled(r *rand.Rand) arguments {
	x := valid()
	n, m := someInt(r), someInt(r)
	switch r.Intn(12) {
	case 0:
		x.l[r.Intn(3)].Keep = n
	case 1:
		x.l[r.Intn(3)] = level(n, m)
	case 2:
		x.h[r.Intn(2)].Time = window(n, m)
	case 3:
		i := r.Intn(2)
		x.h[i].Made, x.h[i].Ends = n, m
	case 4:
		x.s[r.Intn(4)] = api.Sample{At: n, Value: m, Quality: r.Intn(4)}
	case 5:
		x.a[r.Intn(2)] = bin(n, m, 1+r.Intn(3), 0, someInt(r), someInt(r))
		x.b[r.Intn(2)].Sum = n
	case 6:
		x.a[r.Intn(2)] = bin(10*r.Intn(3), n, m, someInt(r), -5, api.MaxValue)
		x.b[r.Intn(2)].Count = m
	case 7:
		x.moment, x.at = n, m
	case 8:
		x.step, x.to = []int{10, n}[r.Intn(2)], m
	case 9:
		x.w, x.every = window(n, m), someInt(r)
	case 10:
		x.rate, x.quota = []int{n, 1_000_000}[r.Intn(2)], m
		x.tag = []string{"t", "u", "", "T"}[r.Intn(4)]
	case 11:
		x.text = fmt.Sprintf("0 %d 2 0 1 %d\n", n, m)
	}
	return x
}

// TestZ1Z3Z6AllInts: with whatever arguments, each call returns, and with an error or false all else is zero.
func TestZ1Z3Z6AllInts(t *testing.T) {
	r := rand.New(rand.NewSource(123))
	fails, works := map[string]int{}, map[string]int{}
	for range 20_000 {
		for _, x := range everyCall(spoiled(r)) {
			if x.e != api.OK {
				fails[x.name]++
				expectZero(t, x)
				continue
			}
			works[x.name]++
			if strings.Contains(" Answer Mean Fit Ends ", " "+x.name+" ") && x.value[1] == false {
				expectZero(t, x)
			}
		}
	}
	for _, x := range everyCall(valid()) {
		if fails[x.name] < 100 || works[x.name] < 100 {
			t.Errorf("%s: %d calls fail, %d work", x.name, fails[x.name], works[x.name])
		}
	}
}

func TestZ1ManyElements(t *testing.T) {
	const many = 200_000
	x := valid()
	x.l, x.h, x.s, x.a, x.b, x.text = make(levels, many), make(holds, many), make(samples, many), make(bins, many), make(bins, many), strings.Repeat("\n", many)
	for _, y := range everyCall(x) {
		want := api.ErrLarge
		if y.name == "Read" {
			want = api.ErrSyntax
		}
		same(t, y.name, y.e, want)
		expectZero(t, y)
	}
	y, z := valid(), valid()
	y.tag, z.h[1].Tag = strings.Repeat("n", many), strings.Repeat("n", many)
	for _, x := range append(everyCall(y), everyCall(z)...) {
		if strings.Contains(" Held Levels Purge Answer Ends ", " "+x.name+" ") {
			same(t, x.name+" with a long name", x.e, api.ErrName)
		}
	}
	z = valid()
	z.text = strings.Repeat("0 ", many/2)
	_, line, e := retain.Read(10, z.text)
	same(t, "a long line", []any{line, e}, []any{0, api.ErrSyntax})
}

// TestZ1TheGreatest: as many levels, holds, samples and bins as there can be, and all moments.
func TestZ1TheGreatest(t *testing.T) {
	start := time.Now()
	l := levels{level(0, 1), level(1, 2), level(2, 3), level(4, 4), level(8, 5), level(16, 6)}
	const long = api.End / api.MaxHolds
	h := make(holds, api.MaxHolds)
	for i := range h {
		h[i] = hold(fmt.Sprintf("h%03d", i), "", i*long, (i+1)*long, 0, api.End-i%2)
	}
	s := make(samples, api.MaxSamples)
	for i := range s {
		s[i] = good(i*(api.End/api.MaxSamples), api.MaxValue)
	}
	left, b, e := retain.Purge(l, h, "t", s, api.End-1)
	same(t, "Purge", []any{len(left), len(b), len(b[4]), e}, []any{api.MaxSamples / 2, 5, api.MaxSamples / 2, api.OK})
	n, ok, e := retain.Answer(l, h, "t", window(0, api.End-api.DayLong), 1, api.End-1)
	same(t, "Answer", []any{n, ok, e}, []any{0, false, api.OK})
	n, ok, e = retain.Answer(l, h, "t", window(0, api.End-api.DayLong), api.DayLong, api.End-2)
	same(t, "Answer, a millisecond before", []any{n, ok, e}, []any{5, true, api.OK})
	at, ok, e := retain.Ends(l, h, "t", long)
	same(t, "Ends", []any{at, ok, e}, []any{api.End - 1, true, api.OK})
	m, e := retain.MergeBins(fullBins(api.MaxBins, 1), fullBins(api.MaxBins, 1), 1)
	same(t, "MergeBins", []any{len(m), e}, []any{api.MaxBins, api.OK})
	if time.Since(start) > 10*time.Second {
		t.Errorf("after %v", time.Since(start))
	}
}

// memory is all that arguments refer to, with what is behind their lists.
func (x arguments) memory() string {
	return fmt.Sprintf("%+v %+v %+v %+v %+v", x.l[:cap(x.l)], x.h[:cap(x.h)], x.s[:cap(x.s)], x.a[:cap(x.a)], x.b[:cap(x.b)])
}

func TestZ2ArgumentsAreNotModified(t *testing.T) {
	x := valid()
	everyCall(x)
	same(t, "the arguments", x.memory(), valid().memory())
	// Holds that were made in another order than that of their keys, levels that have to be reduced, and bins that stay as they are.
	x.h[0].Made, x.h[1].Made, x.quota, x.to, x.b = 100, 20, 20, 10, nil
	before := x.memory()
	everyCall(x)
	same(t, "the arguments", x.memory(), before)
}

func TestZ2ResultsAreNewMemory(t *testing.T) {
	x := valid()
	x.to, x.b = 10, nil
	before, memory := fmt.Sprint(everyCall(x)), x.memory()
	for _, y := range everyCall(x) {
		for _, list := range y.value {
			switch list := list.(type) {
			case []int:
				spoil(list, -7)
			case levels:
				spoil(list, level(-7, -7))
			case samples:
				spoil(list, good(-7, -7))
			case bins:
				spoil(list, bin(-7, -7, -7, -7, -7, -7))
			case []bins:
				for i, b := range list {
					others := fmt.Sprint(list[i+1:])
					spoil(b, bin(-7, -7, -7, -7, -7, -7))
					same(t, "other bins", fmt.Sprint(list[i+1:]), others)
				}
				spoil(list, nil)
			}
		}
	}
	same(t, "the arguments", x.memory(), memory)
	same(t, "after the results were changed", fmt.Sprint(everyCall(x)), before)
}

// spoil overwrites a list, and what memory it has after its end.
func spoil[T any](list []T, x T) {
	list = list[:cap(list)]
	for i := range list {
		list[i] = x
	}
}

// TestZ2MemoryAfterTheLength: what lies behind lists makes no difference.
func TestZ2MemoryAfterTheLength(t *testing.T) {
	x := valid()
	want := fmt.Sprint(everyCall(x))
	x.l, x.h, x.s, x.a, x.b = slices.Clip(x.l), slices.Clip(x.h), slices.Clip(x.s), slices.Clip(x.a), slices.Clip(x.b)
	same(t, "with nothing behind", fmt.Sprint(everyCall(x)), want)
}

func TestZ5EmptyAndNil(t *testing.T) {
	none, empty := valid(), valid()
	none.h, none.s, none.a, none.b, none.text = nil, nil, nil, nil, ""
	empty.h, empty.s, empty.a, empty.b, empty.text = holds{}, samples{}, bins{}, bins{}, ""
	same(t, "empty lists", everyCall(empty), everyCall(none))
	for _, x := range everyCall(none) {
		same(t, x.name, x.e, api.OK)
	}
	none.l, empty.l = nil, levels{}
	same(t, "without levels", everyCall(empty), everyCall(none))
}

func TestZ1Z7ManyAtOnce(t *testing.T) {
	x := valid()
	want := fmt.Sprint(everyCall(x))
	var all sync.WaitGroup
	got := make([]string, 8)
	for i := range got {
		all.Go(func() {
			for range 50 {
				got[i] = fmt.Sprint(everyCall(x))
			}
		})
	}
	all.Wait()
	for _, s := range got {
		same(t, "at once", s, want)
	}
}
