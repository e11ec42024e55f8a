package plant_test

import (
	"fmt"
	"math"
	"math/rand"
	"reflect"
	"strings"
	"sync"
	"testing"
	"time"

	"plantlog/api"
	"plantlog/plant"
)

// result is what a call returned: all but the error, and the error.
type result struct {
	name  string
	value []any
	e     api.Errno
}

// arguments are what all functions together take.
type arguments struct {
	s                   api.Site
	b, c                api.Server
	asset, tag, pattern string
	at, from, to, day   int
	script              string
}

// valid returns arguments that each call can work with, made anew.
func valid() arguments {
	return arguments{
		s: site(), b: server(), c: other(),
		asset: "p1", tag: "p1_temp", pattern: "%_temp",
		at: 40, from: 20, to: 40, day: 0,
		script: "at 5\ntell n2 1 p1_temp 3 9 0\nvalue p1_temp\nalarms\nsum p1 %_temp\n",
	}
}

// everyCall calls each function of the package.
func everyCall(x arguments) []result {
	tags, e1 := plant.Tags(x.s)
	calculated, e2 := plant.Calcs(x.s)
	list, e3 := plant.Alarms(x.s)
	path, e4 := plant.Path(x.s, x.asset)
	under, e5 := plant.Under(x.s, x.asset)
	merged, e6 := plant.Merge(x.b, x.c)
	l, e7 := plant.Series(x.b, x.tag, x.at)
	value, is, e8 := plant.Value(x.b, x.tag, x.at)
	standing, e9 := plant.Standing(x.b, x.at)
	sum, count, others, e10 := plant.Sum(x.b, x.asset, x.pattern, x.at)
	buckets, e11 := plant.Report(x.b, x.tag, x.day)
	revised, e12 := plant.Revised(x.b, x.tag, x.from, x.to)
	c, e13 := plant.New(x.s)
	return []result{
		{"CheckSite", nil, plant.CheckSite(x.s)},
		{"Tags", []any{tags}, e1},
		{"Calcs", []any{calculated}, e2},
		{"Alarms", []any{list}, e3},
		{"Path", []any{path}, e4},
		{"Under", []any{under}, e5},
		{"CheckServer", nil, plant.CheckServer(x.b)},
		{"Merge", []any{merged}, e6},
		{"Series", []any{l}, e7},
		{"Value", []any{value, is}, e8},
		{"Standing", []any{standing}, e9},
		{"Sum", []any{sum, count, others}, e10},
		{"Report", []any{buckets}, e11},
		{"Revised", []any{revised}, e12},
		{"New", []any{c != nil}, e13},
		consoleCall(x),
	}
}

// consoleCall returns what a session returns, and what another console returns and has in the end.
func consoleCall(x arguments) result {
	text := plant.Session(x.s, x.script)
	c, e := plant.New(x.s)
	if e != api.OK {
		return result{"Session", []any{strings.TrimSuffix(text, fmt.Sprintf("error %d\n", e))}, e}
	}
	took := c.Take(x.b)
	for line := range strings.SplitSeq(x.script, "\n") {
		text += c.Do(line)
	}
	return result{"Session", []any{text, took, c.Server()}, api.OK}
}

func expectZero(t *testing.T, x result) {
	t.Helper()
	zero := map[string]string{"CheckSite": "[]", "CheckServer": "[]", "Merge": fmt.Sprint([]any{api.Server{}}), "Value": "[{0 0 0} false]", "Sum": "[0 0 0]", "New": "[false]", "Session": "[]"}
	want, ok := zero[x.name]
	if !ok {
		want = "[[]]"
	}
	if s := fmt.Sprint(x.value); s != want {
		t.Errorf("%s with error %d: %.200s", x.name, x.e, s)
	}
}

func TestOrdinaryCallsWork(t *testing.T) {
	want := map[string]string{
		"Tags":     "[[p1_flow p1_temp p2_flow p2_temp v-open]]",
		"Path":     "[[p1]]",
		"Under":    "[[p1 p2 v]]",
		"Series":   "[[{At:8 Value:7 Quality:0} {At:13 Value:3 Quality:0} {At:23 Value:9 Quality:0}]]",
		"Value":    "[{At:23 Value:9 Quality:0} true]",
		"Standing": "[[{Alarm:p1_hot State:2 Since:23} {Alarm:p2_hot State:3 Since:35}]]",
		"Sum":      "[17 2 0]",
		"Revised":  "[[13]]",
		"New":      "[true]",
	}
	for _, x := range everyCall(valid()) {
		same(t, x.name, x.e, api.OK)
		if w, ok := want[x.name]; ok {
			same(t, x.name, x.value, w)
		} else if s := fmt.Sprint(x.value); len(s) < 50 && x.value != nil {
			t.Error(x.name, s)
		}
	}
}

// someInt returns a number that may be anywhere.
func someInt(r *rand.Rand) int {
	list := []int{math.MinInt, math.MinInt + 1, -api.End, -api.MaxValue - 1, -api.MaxValue, -1, 0, 1, 2, 3, 4, 5, 9, 20, 40, api.MaxDay, api.MaxDay + 1, math.MaxInt / api.DayLong, math.MaxInt/api.DayLong + 1, api.MaxValue, api.MaxValue + 1, api.MaxSeq + 1, api.DayLong - 1, api.End - 1, api.End, math.MaxInt - 1, math.MaxInt}
	return list[r.Intn(len(list))]
}

// someString returns a string that may be a name.
func someString(r *rand.Rand) string {
	list := names{"", "p1", "p2", "v", "p1_temp", "p2_sum", "%_temp", "%", "%%", "P", "p-1", "\xff", " ", "\n", "%_sum", strings.Repeat("%", 50)}
	return list[r.Intn(len(list))]
}

// spoiled returns valid arguments in which some are any.
func spoiled(r *rand.Rand) arguments {
	x := valid()
	n, m, s := someInt(r), someInt(r), someString(r)
	switch r.Intn(14) {
	case 0:
		x.s.Templates[r.Intn(2)].Tags[0] = s
	case 1:
		x.s.Templates[0].Calcs[0] = api.Calc{Tag: someString(r), Expr: s}
	case 2:
		x.s.Templates[0].Alarms[0] = api.Alarm{Key: someString(r), Tag: s, Kind: r.Intn(5), Limit: n, Deadband: m, Priority: 1, Parent: someString(r)}
	case 3:
		x.s.Assets[r.Intn(3)] = api.Asset{Key: s, Parent: someString(r), Template: []string{"pump", "valve", ""}[r.Intn(3)]}
	case 4:
		x.s.Clocks[r.Intn(2)] = api.NodeClock{Node: s, Clock: clock{{Node: n, Server: m}}}
	case 5:
		x.b.Arrivals[r.Intn(len(x.b.Arrivals))] = api.Arrival{Node: s, At: n, Packet: api.Packet{Seq: m, Tag: someString(r), Sample: api.Sample{At: someInt(r)}}}
	case 6:
		x.b.Fixes[0].Fixes[0] = api.Fix{By: "ann", No: n, Made: m, Kind: r.Intn(5), Sample: api.Sample{At: someInt(r), Value: someInt(r)}, At: someInt(r)}
	case 7:
		x.b.Acts[0] = api.Act{By: "ann", No: n, At: m, Kind: r.Intn(5), Alarm: s, Until: someInt(r)}
	case 8:
		x.asset, x.pattern = s, someString(r)
	case 9:
		x.tag, x.script = s, s
	case 10:
		x.at, x.from, x.to, x.day = n, m, someInt(r), someInt(r)
	case 11:
		x.at, x.from, x.to, x.day, x.tag = n, n, m, m, "p1_sum"
	case 12:
		x.script = fmt.Sprintf("at %d\ntell %s %d t %d %d %d\nfix ann %d %s %d %d 0\n", n, s, m, n, m, someInt(r), n, s, m, someInt(r))
	case 13:
		x.script = fmt.Sprintf("value %s\nsum %s %s\nack %s %d %s\nalarms %s\n%d", s, someString(r), s, s, n, someString(r), s, m)
	}
	if r.Intn(2) == 0 {
		x.b.Site, x.c.Site = x.s, x.s
	}
	return x
}

// TestZ1Z3Z6AllInts: with whatever arguments, each call returns, and with an error or false all else is zero.
func TestZ1Z3Z6AllInts(t *testing.T) {
	r := rand.New(rand.NewSource(126))
	fails, works := map[string]int{}, map[string]int{}
	for range 6000 {
		for _, x := range everyCall(spoiled(r)) {
			if x.e != api.OK {
				fails[x.name]++
				expectZero(t, x)
				continue
			}
			works[x.name]++
			if x.name == "Value" && x.value[1] == false {
				expectZero(t, x)
			}
		}
	}
	for _, x := range everyCall(valid()) {
		if fails[x.name] < 100 || works[x.name] < 100 {
			t.Errorf("%s: %d calls fail, %d work", x.name, fails[x.name], works[x.name])
		}
	}
}

func TestZ1ManyElements(t *testing.T) {
	const most = 200_000
	for name, change := range map[string]func(x *api.Server){
		"templates": func(x *api.Server) { x.Site.Templates = make(templates, most) },
		"tags":      func(x *api.Server) { x.Site.Templates[0].Tags = make(names, most) },
		"assets":    func(x *api.Server) { x.Site.Assets = make(assets, most) },
		"clocks":    func(x *api.Server) { x.Site.Clocks = make(clocks, most) },
		"a clock":   func(x *api.Server) { x.Site.Clocks[0].Clock = make(clock, most) },
		"arrivals":  func(x *api.Server) { x.Arrivals = make(arrivals, most) },
		"tags with fixes": func(x *api.Server) {
			x.Fixes = make(allFixes, most)
		},
		"fixes": func(x *api.Server) { x.Fixes[0].Fixes = make(fixes, most) },
		"acts":  func(x *api.Server) { x.Acts = make(acts, most) },
	} {
		b := server()
		change(&b)
		same(t, name, plant.CheckServer(b), api.ErrLarge)
	}
	long := strings.Repeat("%", most)
	for name, c := range map[string]struct {
		change func(x *arguments)
		call   string
		want   api.Errno
	}{
		"a long tag":                {func(x *arguments) { x.s.Templates[0].Tags[0] = long }, "Tags", api.ErrName},
		"a long calculated tag":     {func(x *arguments) { x.s.Templates[0].Calcs[0].Tag = long }, "Calcs", api.ErrName},
		"a long expression":         {func(x *arguments) { x.s.Templates[0].Calcs[0].Expr = long }, "Calcs", api.ErrLarge},
		"a long alarm":              {func(x *arguments) { x.s.Templates[0].Alarms[0].Key = long }, "Alarms", api.ErrName},
		"a long name of an asset":   {func(x *arguments) { x.s.Assets[0].Key = long }, "Under", api.ErrName},
		"a long name that is asked": {func(x *arguments) { x.asset = long }, "Path", api.ErrNone},
		"a long tag that is asked":  {func(x *arguments) { x.tag = long }, "Value", api.ErrNone},
		"a long pattern":            {func(x *arguments) { x.pattern = long }, "Sum", api.OK},
	} {
		x := valid()
		c.change(&x)
		for _, y := range everyCall(x) {
			if y.name == c.call {
				same(t, name, y.e, c.want)
				expectZero(t, y)
			}
		}
	}
	for _, script := range []string{strings.Repeat("\n", most), strings.Repeat(" ", most), long, strings.Repeat("at 0 ", most/5), "value " + long[6:], strings.Repeat("x\n", most/2), strings.Repeat("alarms\n", most/7)} {
		text := plant.Session(site(), script)
		if n := strings.Count(text, "\n"); n > most/2 {
			t.Errorf("%.20q: %d lines", script, n)
		}
	}
}

// greatest returns a server with as much of all as there can be, and a site with as many assets, tags and alarms.
func greatest() api.Server {
	s := api.Site{
		Templates: templates{
			{Key: "a", Tags: names{"%_t"}, Alarms: alarms{below(high("%_h", "%_t"), "a000_h")}},
			{Key: "b", Tags: names{"%_t"}, Calcs: calcs{{Tag: "%_c", Expr: "%_t + a000_t"}}, Alarms: alarms{high("%_h", "%_c")}},
		},
		Assets: many(api.MaxAssets, func(i int) api.Asset {
			return api.Asset{Key: numbered("a")(i), Parent: numbered("a")(i / 2), Template: []string{"b", "a"}[i%2]}
		}),
		Clocks: many(api.MaxNodes, func(i int) api.NodeClock { return api.NodeClock{Node: numbered("n")(i)} }),
	}
	s.Assets[0].Parent = ""
	b := api.Server{Site: s}
	for i := range api.MaxPackets {
		b.Arrivals = append(b.Arrivals, arrival(numbered("n")(i%api.MaxNodes), i, i+1, numbered("a")(i%api.MaxTags)+"_t", good(i, i/api.MaxTags)))
	}
	for i := range api.MaxTags {
		b.Fixes = append(b.Fixes, api.TagFixes{Tag: numbered("a")(i) + "_t", Fixes: many(api.MaxFixes, func(k int) api.Fix { return set("ann", k+1, k, good(10_000+k, 8)) })})
	}
	for i := range api.MaxActs {
		b.Acts = append(b.Acts, ack("ann", i+1, 10*i, numbered("a")(i%api.MaxAlarms)+"_h"))
	}
	return b
}

// TestZ1TheGreatest: with as much as there can be.
func TestZ1TheGreatest(t *testing.T) {
	start := time.Now()
	b := greatest()
	same(t, "CheckServer", plant.CheckServer(b), api.OK)
	merged, e := plant.Merge(b, b)
	same(t, "Merge", []any{reflect.DeepEqual(merged, b), e}, []any{true, api.OK})
	l, e := plant.Series(b, "a000_c", api.End-1)
	same(t, "Series", []any{len(l), l[len(l)-1], e}, []any{11, good(10_000, 16), api.OK})
	list, e := plant.Standing(b, api.End-1)
	same(t, "Standing", []any{len(list), e}, []any{api.MaxAlarms / 2, api.OK})
	sum, count, others, e := plant.Sum(b, "a000", "%_c", api.End-1)
	same(t, "Sum", []any{sum, count, others, e}, []any{16 * api.MaxCalcs, api.MaxCalcs, 0, api.OK})
	if time.Since(start) > time.Minute {
		t.Errorf("after %v", time.Since(start))
	}
}

// memory is all that arguments refer to.
func (x arguments) memory() string { return fmt.Sprintf("%+v", x) }

func TestZ2ArgumentsAreNotModified(t *testing.T) {
	x := valid()
	everyCall(x)
	same(t, "the arguments", x.memory(), valid().memory())
}

// spoilAll overwrites all lists that a value refers to, and what memory they have after their ends.
func spoilAll(v reflect.Value) {
	switch v.Kind() {
	case reflect.Struct:
		for i := range v.NumField() {
			spoilAll(v.Field(i))
		}
	case reflect.Slice:
		v = v.Slice(0, v.Cap())
		for i := range v.Len() {
			spoilAll(v.Index(i))
			v.Index(i).SetZero()
		}
	case reflect.Interface:
		spoilAll(v.Elem())
	}
}

func TestZ2ResultsAreNewMemory(t *testing.T) {
	x := valid()
	before, memory := fmt.Sprint(everyCall(x)), x.memory()
	alone := valid()
	alone.c = api.Server{Site: site()}
	for _, y := range append(everyCall(x), everyCall(alone)...) {
		spoilAll(reflect.ValueOf(y.value))
	}
	same(t, "the arguments", x.memory(), memory)
	same(t, "the arguments of one server", alone.b, server())
	same(t, "after the results were changed", fmt.Sprint(everyCall(x)), before)
}

// TestZ2ConsolesKeepNoMemory: neither what a console takes, nor what it returns, is its own.
func TestZ2ConsolesKeepNoMemory(t *testing.T) {
	s, b := site(), server()
	c, _ := plant.New(s)
	spoilAll(reflect.ValueOf(&s).Elem())
	same(t, "after the site was changed", c.Server(), api.Server{Site: site()})
	same(t, "Take", c.Take(b), api.OK)
	c.Do("tell n9 1 t 1 1 0")
	want := fmt.Sprintf("%+v", c.Server())
	spoilAll(reflect.ValueOf(&b).Elem())
	same(t, "after a server was changed", c.Server(), want)
	got := c.Server()
	spoilAll(reflect.ValueOf(&got).Elem())
	same(t, "after the result was changed", c.Server(), want)
	same(t, "Do", c.Do("at 12")+c.Do("value p1_temp"), "ok\n8 7 0\n")
}

// extended returns a value whose lists have something else behind them.
func extended(v reflect.Value) reflect.Value {
	to := reflect.New(v.Type()).Elem()
	to.Set(v)
	switch v.Kind() {
	case reflect.Struct:
		for i := range v.NumField() {
			to.Field(i).Set(extended(v.Field(i)))
		}
	case reflect.Slice:
		to.Set(reflect.MakeSlice(v.Type(), v.Len(), 2*v.Len()+1))
		for i := range v.Len() {
			to.Index(i).Set(extended(v.Index(i)))
			to.Slice(0, to.Cap()).Index(v.Len() + i).Set(v.Index(i))
		}
	}
	return to
}

// TestZ2MemoryAfterTheLength: what lies behind lists makes no difference, and stays as it is.
func TestZ2MemoryAfterTheLength(t *testing.T) {
	x, y := valid(), valid()
	y.s = extended(reflect.ValueOf(x.s)).Interface().(api.Site)
	y.b = extended(reflect.ValueOf(x.b)).Interface().(api.Server)
	y.c = extended(reflect.ValueOf(x.c)).Interface().(api.Server)
	behind := func() string {
		return fmt.Sprint(y.s.Templates[:4], y.s.Assets[:6], y.b.Arrivals[:2*len(y.b.Arrivals)], y.b.Fixes[0].Fixes[:2*len(y.b.Fixes[0].Fixes)], y.b.Acts[:2*len(y.b.Acts)], y.c.Arrivals[:2*len(y.c.Arrivals)])
	}
	before := behind()
	same(t, "with something behind", fmt.Sprint(everyCall(y)), fmt.Sprint(everyCall(x)))
	same(t, "behind", behind(), before)
}

func TestZ5EmptyAndNil(t *testing.T) {
	none, empty := valid(), valid()
	none.s, none.b, none.c, none.script = api.Site{}, api.Server{}, api.Server{}, ""
	empty.s = api.Site{Templates: templates{}, Assets: assets{}, Clocks: clocks{}}
	empty.b = api.Server{Site: empty.s, Arrivals: arrivals{}, Fixes: allFixes{}, Acts: acts{}}
	empty.c, empty.script = empty.b, ""
	same(t, "empty lists", everyCall(empty), everyCall(none))
	for _, x := range everyCall(none) {
		want := api.OK
		if strings.Contains(" Path Under Series Value Sum Report Revised ", " "+x.name+" ") {
			want = api.ErrNone
		}
		same(t, x.name, x.e, want)
	}
	// Also within elements, and for what is compared.
	a, b := server(), server()
	a.Site.Templates[1].Calcs, b.Site.Templates[1].Calcs = nil, calcs{}
	a.Site.Clocks[1].Clock, b.Site.Clocks[1].Clock = nil, clock{}
	a.Fixes[1].Fixes, b.Fixes[1].Fixes = nil, fixes{}
	for _, x := range [][2]api.Server{{a, b}, {b, a}} {
		merged, e := plant.Merge(x[0], x[1])
		same(t, "Merge", []any{merged, e}, []any{a, api.OK})
	}
}

func TestZ1Z7ManyAtOnce(t *testing.T) {
	x := valid()
	want := fmt.Sprint(everyCall(x))
	var all sync.WaitGroup
	got := make([]string, 8)
	for i := range got {
		all.Go(func() {
			for range 30 {
				got[i] = fmt.Sprint(everyCall(x))
			}
		})
	}
	all.Wait()
	for _, s := range got {
		same(t, "at once", s, want)
	}
}
