package batch_test

import (
	"fmt"
	"math"
	"math/rand"
	"slices"
	"strings"
	"sync"
	"testing"
	"time"

	"plantlog/api"
	"plantlog/batch"
)

// result is what a call returned: all but the error, and the error.
type result struct {
	name  string
	value []any
	e     api.Errno
}

// arguments are what all functions together take.
type arguments struct {
	trigger    api.Trigger
	l          samples
	until      int
	f, g       frames
	r          recipe
	a, b       phases
	parts      int
	golden     []int
	other      []int
	at         int
	t          transfers
	name, from string
	least      api.Fraction
	text       string
}

// valid returns arguments that each call can work with, made anew, with something else behind each list.
func valid() arguments {
	return arguments{
		trigger: api.Trigger{Start: 2, Stop: 1, Join: 2, Least: 2},
		l:       append(samples{good(0, 1), good(5, 2), uncertain(9, 3), good(20, 0)}, good(-7, 0))[:4],
		until:   30,
		f:       append(framed(1, 10, 12, 18), frame(-7, -7))[:2],
		g:       append(framed(2, 15), frame(-7, -7))[:1],
		r:       append(recipe{{Number: 1, Repeat: 2}, {Number: 2, Optional: true, Repeat: 1}}, api.Stage{})[:2],
		a:       append(phases{phase(1, 1, 5), phase(2, 5, 9)}, phase(-7, -7, -7))[:2],
		b:       append(phases{phase(1, 10, 20), phase(2, 30, 50)}, phase(-7, -7, -7))[:2],
		parts:   3,
		golden:  append([]int{2500, 1000}, -7)[:2],
		other:   append([]int{2500, 990}, -7)[:2],
		at:      6,
		t:       append(moved("a c 30", "b c 10", "c d 5"), api.Transfer{})[:3],
		name:    "c", from: "a",
		least: part(1, 2),
		text:  "a b 5\n",
	}
}

// everyCall calls each function of the package.
func everyCall(x arguments) []result {
	found, e1 := batch.Frames(x.trigger, x.l, x.until)
	list, e2 := batch.Phases(x.l, x.f[0])
	follows, at, e3 := batch.Follows(x.r, x.a)
	values, ok, e4 := batch.Profile(x.l, x.f[0], x.parts)
	most, where, e5 := batch.Deviation(x.golden, x.other)
	closest, is, e6 := batch.Closest(x.l, x.f, x.golden)
	mapped, has, e7 := batch.MapTime(x.a, x.b, x.at)
	overlaps, total, e8 := batch.Overlaps(x.f, x.g)
	sources, e9 := batch.Sources(x.t, x.name)
	products, e10 := batch.Products(x.t, x.name)
	share, e11 := batch.Share(x.t, x.name, x.from)
	recalled, e12 := batch.Recall(x.t, x.from, x.least)
	text, e13 := batch.Text(x.t)
	read, line, e14 := batch.Read(x.text)
	return []result{
		{"CheckTrigger", nil, batch.CheckTrigger(x.trigger)},
		{"Frames", []any{found}, e1},
		{"CheckFrames", nil, batch.CheckFrames(x.f)},
		{"Phases", []any{list}, e2},
		{"CheckRecipe", nil, batch.CheckRecipe(x.r)},
		{"Follows", []any{follows, at}, e3},
		{"Profile", []any{values, ok}, e4},
		{"Deviation", []any{most, where}, e5},
		{"Closest", []any{closest, is}, e6},
		{"MapTime", []any{mapped, has}, e7},
		{"Overlaps", []any{overlaps, total}, e8},
		{"CheckTransfers", nil, batch.CheckTransfers(x.t)},
		{"Sources", []any{sources}, e9},
		{"Products", []any{products}, e10},
		{"Share", []any{share}, e11},
		{"Recall", []any{recalled}, e12},
		{"Text", []any{text}, e13},
		{"Read", []any{read, line}, e14},
	}
}

func expectZero(t *testing.T, x result) {
	t.Helper()
	if x.name == "Read" && x.e == api.ErrSyntax {
		return
	}
	zero := map[string]string{"Follows": "[false 0]", "Profile": "[[] false]", "Deviation": "[0 0]", "Closest": "[0 false]", "MapTime": "[0 false]", "Overlaps": "[[] 0]", "Share": "[{Num:0 Den:0}]", "Text": "[]", "Read": "[[] 0]", "CheckTrigger": "[]", "CheckFrames": "[]", "CheckRecipe": "[]", "CheckTransfers": "[]"}
	want, ok := zero[x.name]
	if !ok {
		want = "[[]]"
	}
	same(t, fmt.Sprintf("%s with error %d", x.name, x.e), x.value, want)
}

func TestOrdinaryCallsWork(t *testing.T) {
	want := map[string]string{
		"Frames": "[[{From:5 To:20}]]", "Phases": "[[{Number:1 Window:{From:1 To:5}} {Number:2 Window:{From:5 To:9}} {Number:3 Window:{From:9 To:10}}]]",
		"Follows": "[true 0]", "Profile": "[[1200 1800 2500 2727] true]", "Deviation": "[10 1]", "Closest": "[1 true]", "MapTime": "[35 true]",
		"Overlaps": "[[{From:2 To:10} {From:12 To:15}] 11]", "Sources": "[[a b]]", "Products": "[[d]]", "Share": "[{Num:3 Den:4}]", "Recall": "[[c d]]",
		"Text": "[a c 30\nb c 10\nc d 5\n]", "Read": "[[{From:a To:b Amount:5}] 0]",
	}
	for _, x := range everyCall(valid()) {
		same(t, x.name, x.e, api.OK)
		if len(x.value) > 0 {
			same(t, x.name, x.value, want[x.name])
		}
	}
}

func someInt(r *rand.Rand) int {
	list := []int{math.MinInt, math.MinInt + 1, -api.End, -1000*api.MaxValue - 1, -1000 * api.MaxValue, -api.MaxValue - 1, -api.MaxValue, -1, 0, 1, 2, 3, 5, 9, 12, 100, 101, api.MaxPhase, api.MaxPhase + 1, api.MaxAmount, api.MaxAmount + 1, api.DayLong, api.DayLong + 1, 1000 * api.MaxValue, 1000*api.MaxValue + 1, api.End - 1, api.End, api.End + 1, math.MaxInt - 1, math.MaxInt}
	return list[r.Intn(len(list))]
}

// spoiled returns valid arguments in which some numbers are any.
func spoiled(r *rand.Rand) arguments {
	x := valid()
	n, m := someInt(r), someInt(r)
	switch r.Intn(12) {
	case 0:
		x.trigger = []api.Trigger{{Start: n, Stop: m}, {Join: n, Least: m}}[r.Intn(2)]
		x.parts = someInt(r)
	case 1:
		x.l[r.Intn(4)] = api.Sample{At: n, Value: m, Quality: r.Intn(4)}
	case 2:
		x.f[r.Intn(2)] = frame(n, m)
	case 3:
		x.g[0] = frame(n, m)
		x.until = n
	case 4:
		x.r[r.Intn(2)] = api.Stage{Number: n, Repeat: m}
	case 5:
		x.a[r.Intn(2)] = phase(r.Intn(3), n, m)
	case 6:
		x.b[r.Intn(2)] = phase(n, someInt(r), m)
	case 7:
		x.golden[r.Intn(2)], x.other[r.Intn(2)] = n, m
		x.at = someInt(r)
	case 8:
		x.t[r.Intn(3)].Amount = n
	case 9:
		x.t[r.Intn(3)] = transfer(fmt.Sprintf("%c", 'a'+r.Intn(3)), fmt.Sprintf("%c", 'a'+r.Intn(4)), m)
	case 10:
		x.name, x.from = []string{"c", "A", ""}[r.Intn(3)], []string{"b", "", "1"}[r.Intn(3)]
		x.text = fmt.Sprintf("a b %d\n", n)
	case 11:
		x.least = part(n, m)
	}
	return x
}

// TestZ1Z3Z6AllInts: with whatever arguments, each call returns, and with an error or false all else is zero.
func TestZ1Z3Z6AllInts(t *testing.T) {
	r := rand.New(rand.NewSource(104))
	fails, works := map[string]int{}, map[string]int{}
	for range 12_000 {
		for _, x := range everyCall(spoiled(r)) {
			if x.e != api.OK {
				fails[x.name]++
				expectZero(t, x)
				continue
			}
			works[x.name]++
			if strings.Contains(" Profile Closest MapTime ", " "+x.name+" ") && x.value[1] == false {
				expectZero(t, x)
			}
		}
	}
	for _, x := range everyCall(valid()) {
		if fails[x.name] < 100 || works[x.name] < 100 {
			t.Errorf("%s: %d calls fail, %d work", x.name, fails[x.name], works[x.name])
		}
	}
}

func TestZ1ManyElements(t *testing.T) {
	const most = 200_000
	x := valid()
	x.l, x.f, x.g, x.r, x.a, x.b = make(samples, most), make(frames, most), make(frames, most), make(recipe, most), make(phases, most), make(phases, most)
	x.golden, x.other, x.t, x.text = make([]int, most), make([]int, most), make(transfers, most), strings.Repeat("\n", most)
	for _, y := range everyCall(x) {
		want := api.ErrLarge
		switch y.name {
		case "CheckTrigger":
			want = api.OK
		case "Read":
			want = api.ErrSyntax
		}
		same(t, y.name, y.e, want)
		expectZero(t, y)
	}
	y := valid()
	y.name, y.from = strings.Repeat("n", most), strings.Repeat("t", most)
	for _, z := range everyCall(y) {
		if strings.Contains(" Sources Products Share Recall ", " "+z.name+" ") {
			same(t, z.name+" with a long name", z.e, api.ErrName)
		}
	}
}

// TestZ1TheGreatest: as many samples, frames, values, stages, phases and transfers as there can be.
func TestZ1TheGreatest(t *testing.T) {
	start := time.Now()
	const long = api.End / api.MaxSamples
	l := make(samples, api.MaxSamples)
	for i := range l {
		l[i] = good(i*long, (i%2*2-1)*(api.MaxValue-i))
	}
	f := make(frames, api.MaxFrames)
	for i := range f {
		f[i] = frame((i+2)*long, (i+3)*long)
	}
	golden := make([]int, api.MaxParts+1)
	_, ok, e := batch.Closest(l, f, golden)
	same(t, "Closest", []any{ok, e}, []any{true, api.OK})
	overlaps, n, e := batch.Overlaps(f, framed(0, api.End))
	same(t, "Overlaps", []any{len(overlaps), n, e}, []any{api.MaxFrames, api.MaxFrames * long, api.OK})
	p, r := make(phases, api.MaxSamples), make(recipe, api.MaxStages)
	for i := range p {
		p[i] = phase(i/50, i*long, (i+1)*long)
	}
	for i := range r {
		r[i] = api.Stage{Number: i, Repeat: 50}
	}
	is, at, e := batch.Follows(r, p)
	same(t, "Follows", []any{is, at, e}, []any{true, 0, api.OK})
	mapped, ok, e := batch.MapTime(p, p, api.MaxSamples*long-1)
	same(t, "MapTime", []any{mapped, ok, e}, []any{api.MaxSamples*long - 1, true, api.OK})
	products, e := batch.Recall(chain(api.MaxTransfers), "b0000", part(1, 1))
	same(t, "Recall", []any{len(products), e}, []any{api.MaxTransfers, api.OK})
	if time.Since(start) > 10*time.Second {
		t.Errorf("after %v", time.Since(start))
	}
}

// memory is all that arguments refer to, with what is behind their lists.
func (x arguments) memory() string {
	return fmt.Sprintf("%+v %+v %+v %+v %+v %+v %+v %+v %+v", x.l[:5], x.f[:3], x.g[:2], x.r[:3], x.a[:3], x.b[:3], x.golden[:3], x.other[:3], x.t[:4])
}

func TestZ2ArgumentsAreNotModified(t *testing.T) {
	x := valid()
	everyCall(x)
	same(t, "the arguments", x.memory(), valid().memory())
}

func TestZ2ResultsAreNewMemory(t *testing.T) {
	x := valid()
	before := fmt.Sprint(everyCall(valid()))
	for _, y := range everyCall(x) {
		for _, list := range y.value {
			switch list := list.(type) {
			case []int:
				spoil(list, -7)
			case []string:
				spoil(list, "x")
			case frames:
				spoil(list, frame(-7, -7))
			case phases:
				spoil(list, phase(-7, -7, -7))
			case transfers:
				spoil(list, api.Transfer{})
			}
		}
	}
	same(t, "the arguments", x.memory(), valid().memory())
	same(t, "after the results were changed", fmt.Sprint(everyCall(x)), before)
}

// spoil overwrites a list, and what memory it has after its end.
func spoil[T any](list []T, x T) {
	list = list[:cap(list)]
	for i := range list {
		list[i] = x
	}
}

// TestZ2MemoryAfterTheLength: what lies behind lists makes no difference.
func TestZ2MemoryAfterTheLength(t *testing.T) {
	x := valid()
	want := fmt.Sprint(everyCall(x))
	x.l, x.f, x.g, x.r, x.a, x.b = slices.Clip(x.l), slices.Clip(x.f), slices.Clip(x.g), slices.Clip(x.r), slices.Clip(x.a), slices.Clip(x.b)
	x.golden, x.other, x.t = slices.Clip(x.golden), slices.Clip(x.other), slices.Clip(x.t)
	same(t, "with nothing behind", fmt.Sprint(everyCall(x)), want)
}

func TestZ5EmptyAndNil(t *testing.T) {
	none, empty := valid(), valid()
	none.l, none.g, none.r, none.a, none.b, none.golden, none.other, none.t, none.text = nil, nil, nil, nil, nil, nil, nil, nil, ""
	empty.l, empty.g, empty.r, empty.a, empty.b, empty.golden, empty.other, empty.t, empty.text = samples{}, frames{}, recipe{}, phases{}, phases{}, []int{}, []int{}, transfers{}, ""
	same(t, "empty lists", everyCall(empty), everyCall(none))
	for _, x := range everyCall(none) {
		want := api.OK
		switch x.name {
		case "CheckRecipe", "Follows":
			want = api.ErrNone
		case "Deviation", "Closest":
			want = api.ErrForm
		}
		same(t, x.name, x.e, want)
	}
	same(t, "CheckFrames", []any{batch.CheckFrames(nil), batch.CheckFrames(frames{})}, []any{api.OK, api.OK})
	a, n, e1 := batch.Overlaps(nil, frames{})
	b, m, e2 := batch.Overlaps(frames{}, nil)
	same(t, "Overlaps", []any{a, n, e1}, []any{b, m, e2})
}

func TestZ1Z7ManyAtOnce(t *testing.T) {
	x := valid()
	want := fmt.Sprint(everyCall(x))
	var all sync.WaitGroup
	got := make([]string, 8)
	for i := range got {
		all.Go(func() {
			for range 50 {
				got[i] = fmt.Sprint(everyCall(x))
			}
		})
	}
	all.Wait()
	for _, s := range got {
		same(t, "at once", s, want)
	}
}
