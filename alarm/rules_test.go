package alarm_test

import (
	"fmt"
	"math"
	"math/rand"
	"slices"
	"strings"
	"sync"
	"testing"
	"time"

	"plantlog/alarm"
	"plantlog/api"
)

// result is what a call returned: all but the error, and the error.
type result struct {
	name  string
	value any
	e     api.Errno
}

// arguments are what all functions together take.
type arguments struct {
	l               alarms
	s               series
	a, b            acts
	x               api.Alarm
	samples         samples
	key, text       string
	at, until       int
	w               api.Window
	many, long, few int
}

// valid returns arguments that each call can work with, made anew, with something else behind each list.
func valid() arguments {
	l := append(samples{good(1, 5), uncertain(4, 7), bad(6), good(8, 9), good(11, 0), good(14, 9)}, good(-9, 9))[:6]
	s := append(series{{Tag: "t", Samples: l}, {Tag: "u", Samples: samples{good(2, 3)}}}, api.Series{Tag: "T"})[:2]
	x := with(high("b", 4), func(x *api.Alarm) { x.Latched, x.Deadband = true, 1 })
	return arguments{
		l:       append(alarms{child(high("a", 8), "b"), x, with(high("c", 4), func(x *api.Alarm) { x.Kind, x.Tag = api.AlarmLow, "u" })}, api.Alarm{})[:3],
		s:       s,
		a:       append(acts{ack("ann", 1, 3), onAlarm(ack("ann", 2, 3), "b"), onAlarm(shelve("bob", 1, 2, 4), "b")}, api.Act{})[:3],
		b:       append(acts{release("cat", 1, 9)}, api.Act{})[:1],
		x:       x,
		samples: slices.Clone(l),
		key:     "b", text: "a t high 1 0 0 0 1 0 -\n",
		at: 9, until: 20, w: window(0, 20), many: 2, long: 15, few: 1,
	}
}

// everyCall calls each function of the package.
func everyCall(x arguments) []result {
	merged, e1 := alarm.Merge(x.a, x.b)
	active, e2 := alarm.Active(x.x, x.samples, x.until)
	state, e3 := alarm.StateAt(x.l, x.s, x.a, x.key, x.at)
	standing, e4 := alarm.Standing(x.l, x.s, x.a, x.at)
	ignored, e5 := alarm.Ignored(x.l, x.s, x.a)
	changes, e6 := alarm.Log(x.l, x.s, x.a, x.w)
	chattering, e7 := alarm.Chattering(x.l, x.s, x.w, x.many, x.long)
	floods, e8 := alarm.Floods(x.l, x.s, x.w, x.many, x.long)
	stale, e9 := alarm.Stale(x.l, x.s, x.a, x.at, x.few)
	duties, e10 := alarm.Duties(x.l, x.s, x.w)
	deadband, is, e11 := alarm.Deadband(x.x, x.samples, x.until, x.few)
	text, e12 := alarm.Text(x.l)
	read, line, e13 := alarm.Read(x.text)
	return []result{
		{"CheckAlarms", nil, alarm.CheckAlarms(x.l)},
		{"CheckAllSeries", nil, alarm.CheckAllSeries(x.s)},
		{"CheckActs", nil, alarm.CheckActs(x.a)},
		{"Merge", merged, e1},
		{"Active", active, e2},
		{"StateAt", state, e3},
		{"Standing", standing, e4},
		{"Ignored", ignored, e5},
		{"Log", changes, e6},
		{"Chattering", chattering, e7},
		{"Floods", floods, e8},
		{"Stale", stale, e9},
		{"Duties", duties, e10},
		{"Deadband", []any{deadband, is}, e11},
		{"Text", text, e12},
		{"Read", []any{read, line}, e13},
	}
}

func expectZero(t *testing.T, x result) {
	t.Helper()
	zero := map[string]string{"StateAt": fmt.Sprint(api.Standing{}), "Deadband": "[0 false]", "Text": "", "Read": "[[] 0]", "CheckAlarms": "<nil>", "CheckAllSeries": "<nil>", "CheckActs": "<nil>"}
	want, ok := zero[x.name]
	if !ok {
		want = "[]"
	}
	if s := fmt.Sprint(x.value); s != want && (x.name != "Read" || x.e != api.ErrSyntax) {
		t.Errorf("%s with error %d: %s", x.name, x.e, s)
	}
}

func TestOrdinaryCallsWork(t *testing.T) {
	for _, x := range everyCall(valid()) {
		same(t, x.name, x.e, api.OK)
		if s := fmt.Sprint(x.value); s == "[]" {
			t.Errorf("%s: %s", x.name, s)
		}
	}
}

// TestP61ErrorsInOrder: the error of the alarms comes before that of the series, this before that of the acts, and this before all others.
func TestP61ErrorsInOrder(t *testing.T) {
	wrong := arguments{key: "none", at: -1, w: window(5, 4)}
	wrong.l, wrong.s, wrong.a = alarms{high("a", 1), high("a", 1)}, series{{}}, acts{{By: "ann"}}
	for _, step := range []struct {
		repair func()
		calls  string
		want   api.Errno
	}{
		{func() {}, "StateAt Standing Ignored Log Chattering Floods Stale Duties", api.ErrOrder},
		{func() { wrong.l = valid().l }, "StateAt Standing Ignored Log Chattering Floods Stale Duties", api.ErrName},
		{func() { wrong.s = valid().s }, "StateAt Standing Ignored Log Stale", api.ErrArg},
		{func() { wrong.a = acts{{By: "ann", No: 1, Kind: 9}} }, "StateAt Standing Ignored Log Stale", api.ErrKind},
		{func() { wrong.a = nil }, "StateAt", api.ErrNone},
		{func() { wrong.key = "a" }, "StateAt Standing Log Chattering Floods Stale Duties", api.ErrArg},
		{func() { wrong.at, wrong.w = 5, window(0, 9) }, "Chattering Floods Stale", api.ErrArg},
		{func() { wrong.many, wrong.long, wrong.few = 1, 1, 1 }, "StateAt Standing Ignored Log Chattering Floods Stale Duties", api.OK},
	} {
		step.repair()
		for _, x := range everyCall(wrong) {
			if strings.Contains(" "+step.calls+" ", " "+x.name+" ") {
				same(t, x.name, x.e, step.want)
			}
			if x.e != api.OK {
				expectZero(t, x)
			}
		}
	}
}

func someInt(r *rand.Rand) int {
	list := []int{math.MinInt, math.MinInt + 1, -api.End, -2*api.MaxValue - 1, -api.MaxValue - 1, -api.MaxValue, -1, 0, 1, 2, 3, 4, 5, 9, 1_000, 1_001, api.MaxSamples, api.MaxValue, api.MaxValue + 1, 2 * api.MaxValue, api.MaxDelay, 7 * api.DayLong, api.End - 1, api.End, math.MaxInt - 1, math.MaxInt}
	return list[r.Intn(len(list))]
}

// TestZ1Z3Z6AllInts: with whatever arguments, each call returns, and with an error all else is zero.
func TestZ1Z3Z6AllInts(t *testing.T) {
	r := rand.New(rand.NewSource(68))
	fails, works := map[string]int{}, map[string]int{}
	for range 6000 {
		x := valid()
		x.at, x.until, x.w = someInt(r), someInt(r), window(someInt(r), someInt(r))
		x.many, x.long, x.few = someInt(r), someInt(r), someInt(r)
		x.key = []string{"", "a", "b", "x", "X"}[r.Intn(5)]
		y := api.Alarm{Key: "b", Tag: "t", Kind: someInt(r), Limit: someInt(r), Deadband: someInt(r), On: someInt(r), Off: someInt(r), Priority: someInt(r), Parent: x.key}
		x.text = fmt.Sprintf("a t low %d %d %d %d %d 1 -\n", someInt(r), someInt(r), someInt(r), someInt(r), someInt(r))
		switch r.Intn(8) {
		case 0:
			x.l[1], x.x = y, y
		case 1:
			x.s[0].Samples[r.Intn(6)] = api.Sample{At: someInt(r), Value: someInt(r), Quality: someInt(r)}
		case 2:
			x.a[r.Intn(3)] = api.Act{By: "bob", No: someInt(r), At: someInt(r), Kind: someInt(r), Alarm: "b", Until: someInt(r)}
		case 3:
			x.l[1].Limit, x.l[1].Deadband, x.l[1].On, x.l[1].Off = -api.MaxValue, 2*api.MaxValue, api.MaxDelay, api.MaxDelay
		}
		for _, y := range everyCall(x) {
			if y.e != api.OK {
				fails[y.name]++
				expectZero(t, y)
				continue
			}
			works[y.name]++
		}
	}
	for _, x := range everyCall(valid()) {
		if fails[x.name] < 30 || works[x.name] < 30 {
			t.Errorf("%s: %d calls fail, %d work", x.name, fails[x.name], works[x.name])
		}
	}
}

func TestZ1ManyElements(t *testing.T) {
	const most = 200_000
	x := valid()
	x.l, x.s, x.a, x.b = chain(most), make(series, most), make(acts, most), make(acts, most)
	x.samples, x.key, x.text = manySamples(most), strings.Repeat("a", most), strings.Repeat("\n", most)
	for _, y := range everyCall(x) {
		want := api.ErrLarge
		if y.name == "Read" {
			want = api.ErrSyntax
		}
		same(t, y.name, y.e, want)
		expectZero(t, y)
	}
	y := valid()
	y.x.Key = strings.Repeat("a", most)
	_, e := alarm.Active(y.x, nil, 5)
	same(t, "Active with a long key", e, api.ErrName)
	_, e = alarm.StateAt(y.l, y.s, y.a, x.key, 5)
	same(t, "StateAt of a long key", e, api.ErrNone)
}

// TestZ1TheGreatestScene: as many alarms, series, samples and acts as there can be.
func TestZ1TheGreatestScene(t *testing.T) {
	l, s := chain(api.MaxAlarms), manySeries(api.MaxTags, api.MaxSamples)
	a := make(acts, api.MaxActs)
	for i := range a {
		a[i] = onAlarm(shelve("ann", i+1, i*400, i*400+300), l[i%len(l)].Key)
	}
	start := time.Now()
	state, e := alarm.StateAt(l, s, a, "a000199", api.End-1)
	same(t, "StateAt", []any{state.State, e}, []any{api.StateSuppressed, api.OK})
	list, e := alarm.Standing(l, s, a, api.End-1)
	same(t, "Standing", []any{list, e}, []any{"[{Alarm:a000000 State:2 Since:999800}]", api.OK})
	ignored, e := alarm.Ignored(l, s, a)
	same(t, "Ignored", []any{ignored, e}, []any{"[]", api.OK})
	changes, e := alarm.Log(l, s, a, window(200, 800))
	same(t, "Log", []any{len(changes) > api.MaxAlarms, e}, []any{true, api.OK})
	keys, e := alarm.Chattering(l, s, window(0, api.End), api.MaxSamples/2, 7*api.DayLong)
	same(t, "Chattering", []any{len(keys), e}, []any{api.MaxAlarms, api.OK})
	floods, e := alarm.Floods(l, s, window(0, api.End), api.MaxSamples, 7*api.DayLong)
	same(t, "Floods", []any{floods, e}, []any{windows{window(200, 1_000_000)}, api.OK})
	stale, e := alarm.Stale(l, s, a, api.End-1, 1)
	same(t, "Stale", []any{stale, e}, []any{names{"a000000"}, api.OK})
	duties, e := alarm.Duties(l, s, window(0, 1_000_000))
	same(t, "Duties", []any{len(duties), duties[0].Value, e}, []any{api.MaxAlarms, fmt.Sprint(200*2_499 + 200), api.OK})
	if time.Since(start) > time.Minute {
		t.Errorf("after %v", time.Since(start))
	}
}

// memory is all that arguments refer to, with what is behind their lists.
func (x arguments) memory() string {
	return fmt.Sprintf("%+v %+v %+v %+v %+v %+v", x.l[:4], x.s[:3], x.s[0].Samples[:7], x.a[:4], x.b[:2], x.samples)
}

func TestZ2ArgumentsAreNotModified(t *testing.T) {
	x := valid()
	everyCall(x)
	same(t, "the arguments", x.memory(), valid().memory())
}

func TestZ2ResultsAreNewMemory(t *testing.T) {
	x := valid()
	first := everyCall(x)
	before := fmt.Sprint(everyCall(valid()))
	alone, _ := alarm.Merge(x.a, nil)
	for _, y := range append(first, result{value: alone}) {
		switch list := y.value.(type) {
		case acts:
			spoil(list, api.Act{No: -7})
		case windows:
			spoil(list, window(-7, -7))
		case standings:
			spoil(list, api.Standing{Since: -7})
		case []int:
			spoil(list, -7)
		case []string:
			spoil(list, "spoiled")
		case []api.Pair:
			spoil(list, api.Pair{Name: "spoiled"})
		case []any:
			if l, ok := list[0].(alarms); ok {
				spoil(l, api.Alarm{Key: "spoiled"})
			}
		}
	}
	same(t, "the arguments", x.memory(), valid().memory())
	same(t, "after the results were changed", fmt.Sprint(everyCall(x)), before)
}

// spoil overwrites a list, and what memory it has after its end.
func spoil[T any](list []T, x T) {
	list = list[:cap(list)]
	for i := range list {
		list[i] = x
	}
}

// TestZ2MemoryAfterTheLength: what lies behind lists makes no difference.
func TestZ2MemoryAfterTheLength(t *testing.T) {
	x := valid()
	want := fmt.Sprint(everyCall(x))
	x.l, x.s, x.a, x.b, x.samples = slices.Clip(x.l), slices.Clip(x.s), slices.Clip(x.a), slices.Clip(x.b), slices.Clip(x.samples)
	x.s[0].Samples = slices.Clip(x.s[0].Samples)
	same(t, "with nothing behind", fmt.Sprint(everyCall(x)), want)
}

func TestZ5EmptyAndNil(t *testing.T) {
	none, empty := valid(), valid()
	none.l, none.s, none.a, none.b, none.samples, none.text = nil, nil, nil, nil, nil, ""
	empty.l, empty.s, empty.a, empty.b, empty.samples, empty.text = alarms{}, series{}, acts{}, acts{}, samples{}, ""
	same(t, "empty lists", everyCall(empty), everyCall(none))
	for _, x := range everyCall(none) {
		want := api.OK
		if x.name == "StateAt" {
			want = api.ErrNone
		}
		same(t, x.name, x.e, want)
	}
	none, empty = valid(), valid()
	none.s[0].Samples, empty.s[0].Samples = nil, samples{}
	same(t, "empty series", everyCall(empty), everyCall(none))
}

func TestZ1Z7ManyAtOnce(t *testing.T) {
	x := valid()
	want := fmt.Sprint(everyCall(x))
	var all sync.WaitGroup
	got := make([]string, 8)
	for i := range got {
		all.Go(func() {
			for range 50 {
				got[i] = fmt.Sprint(everyCall(x))
			}
		})
	}
	all.Wait()
	for _, s := range got {
		same(t, "at once", s, want)
	}
}
