package alarm_test

import (
	"cmp"
	"fmt"
	"math"
	"math/rand"
	"slices"
	"strings"
	"testing"

	"plantlog/alarm"
	"plantlog/api"
)

// scene is what the states of alarms depend on.
type scene struct {
	l alarms
	s series
	a acts
}

// someScene returns a valid scene before a moment.
func someScene(r *rand.Rand, end int) scene {
	var x scene
	tags, operators := names{"t", "u", "v"}, names{"ann", "bob"}
	for _, tag := range tags[:1+r.Intn(3)] {
		x.s = append(x.s, api.Series{Tag: tag, Samples: someSamples(r, end)})
	}
	keys := names{"a", "b", "c", "d", "e"}[:1+r.Intn(5)]
	order := r.Perm(len(keys)) // parents come before children
	for i, key := range keys {
		y := someAlarm(r, key, append(tags, "none")[r.Intn(4)])
		if parent := r.Intn(len(keys)); order[parent] < order[i] && r.Intn(2) == 0 {
			y.Parent = keys[parent]
		}
		x.l = append(x.l, y)
	}
	for _, by := range operators {
		moment := 0
		for no := 1; no < 2+r.Intn(12); no++ {
			moment += r.Intn(4)
			y := api.Act{By: by, No: no, At: moment, Kind: 1 + r.Intn(3), Alarm: append(keys, "x")[r.Intn(len(keys)+1)]}
			if y.Kind == api.ActShelve {
				y.Until = moment + 1 + r.Intn(8)
			}
			x.a = append(x.a, y)
		}
	}
	return x
}

// past is what happened before a moment: the reported states of each moment, by alarm, and the acts that were ignored.
type past struct {
	states  [][]int
	ignored []int
}

// told returns what the document says, millisecond by millisecond.
func (x scene) told(until int) past {
	active := map[string][]bool{}
	for _, y := range x.l {
		var l samples
		for _, s := range x.s {
			if s.Tag == y.Tag {
				l = s.Samples
			}
		}
		active[y.Key] = told(y, l, until)
	}
	byTime := make([]int, len(x.a))
	for i := range byTime {
		byTime[i] = i
	}
	slices.SortFunc(byTime, func(i, j int) int {
		return cmp.Or(cmp.Compare(x.a[i].At, x.a[j].At), strings.Compare(x.a[i].By, x.a[j].By), cmp.Compare(x.a[i].No, x.a[j].No))
	})
	p := past{states: make([][]int, len(x.l))}
	state, acked, shelved := map[string]int{}, map[string]bool{}, map[string]int{}
	for _, y := range x.l {
		state[y.Key] = api.StateNormal
	}
	for moment := range until {
		for _, y := range x.l {
			before := moment > 0 && active[y.Key][moment-1]
			switch now := active[y.Key][moment]; {
			case now && !before:
				state[y.Key], acked[y.Key] = api.StateActive, false
			case before && !now && y.Latched && !acked[y.Key]:
				state[y.Key] = api.StateReturned
			case before && !now:
				state[y.Key] = api.StateNormal
			}
			if shelved[y.Key] == moment {
				delete(shelved, y.Key)
			}
		}
		for _, i := range byTime {
			y := x.a[i]
			if y.At != moment {
				continue
			}
			switch {
			case y.Alarm == "x":
				p.ignored = append(p.ignored, i)
			case y.Kind == api.ActShelve:
				shelved[y.Alarm] = y.Until
			case y.Kind == api.ActRelease:
				if shelved[y.Alarm] == 0 {
					p.ignored = append(p.ignored, i)
				}
				delete(shelved, y.Alarm)
			case state[y.Alarm] == api.StateActive:
				state[y.Alarm], acked[y.Alarm] = api.StateAcked, true
			case state[y.Alarm] == api.StateReturned:
				state[y.Alarm] = api.StateNormal
			default:
				p.ignored = append(p.ignored, i)
			}
		}
		for i, y := range x.l {
			reported := state[y.Key]
			if shelved[y.Key] > 0 {
				reported = api.StateShelved
			}
			for z := y; z.Parent != ""; {
				z = x.l[slices.IndexFunc(x.l, func(up api.Alarm) bool { return up.Key == z.Parent })]
				if active[z.Key][moment] {
					reported = api.StateSuppressed
				}
			}
			p.states[i] = append(p.states[i], reported)
		}
	}
	slices.Sort(p.ignored)
	return p
}

// since returns the first moment from which on all states up to a moment are those that are looked for.
func since(states []int, moment int, is func(state int) bool) int {
	for moment > 0 && is(states[moment-1]) {
		moment--
	}
	return moment
}

func (x scene) standingAt(p past, i, moment int) api.Standing {
	state := p.states[i][moment]
	return api.Standing{Alarm: x.l[i].Key, State: state, Since: since(p.states[i], moment, func(before int) bool { return before == state })}
}

func TestP63StatesAsTheDocumentSays(t *testing.T) {
	r := rand.New(rand.NewSource(64))
	const end = 40
	counts := map[int]int{}
	for range 1000 {
		x := someScene(r, end)
		p := x.told(end)
		what := fmt.Sprintf("%+v", x)
		for i, y := range x.l {
			moment := r.Intn(end)
			want := x.standingAt(p, i, moment)
			counts[want.State]++
			got, e := alarm.StateAt(x.l, x.s, x.a, y.Key, moment)
			same(t, fmt.Sprint(what, moment), []any{got, e}, []any{want, api.OK})
		}
		ignored, e := alarm.Ignored(x.l, x.s, x.a)
		same(t, what+" ignored", []any{ignored, e}, []any{p.ignored, api.OK})
		moment := r.Intn(end)
		list, e := alarm.Standing(x.l, x.s, x.a, moment)
		same(t, fmt.Sprint(what, " standing ", moment), []any{list, e}, []any{x.standing(p, moment), api.OK})
		w := window(r.Intn(end/2), r.Intn(end/2)+end/2)
		changes, e := alarm.Log(x.l, x.s, x.a, w)
		same(t, fmt.Sprint(what, " log ", w), []any{changes, e}, []any{x.changes(p, w), api.OK})
	}
	for state := api.StateNormal; state <= api.StateSuppressed; state++ {
		if counts[state] < 30 {
			t.Errorf("state %d: %d times", state, counts[state])
		}
	}
}

// standing returns what the document says of Standing.
func (x scene) standing(p past, moment int) standings {
	var list standings
	priority := map[string]int{}
	for i, y := range x.l {
		priority[y.Key] = y.Priority
		switch standing := x.standingAt(p, i, moment); standing.State {
		case api.StateActive, api.StateAcked, api.StateReturned:
			list = append(list, standing)
		}
	}
	slices.SortFunc(list, func(x, y api.Standing) int {
		return cmp.Or(cmp.Compare(priority[x.Alarm], priority[y.Alarm]), cmp.Compare(x.Since, y.Since), strings.Compare(x.Alarm, y.Alarm))
	})
	return list
}

// changes returns what the document says of Log.
func (x scene) changes(p past, w api.Window) standings {
	var list standings
	for moment := w.From; moment < w.To; moment++ {
		for i, y := range x.l {
			before, now := api.StateNormal, p.states[i][moment]
			if moment > 0 {
				before = p.states[i][moment-1]
			}
			if before != now {
				list = append(list, api.Standing{Alarm: y.Key, State: now, Since: moment})
			}
		}
	}
	return list
}

// hot is the alarm a, latched, active from 10 on, before 20, and from 30 on.
func hot() scene {
	return scene{
		l: alarms{with(high("a", 5), func(x *api.Alarm) { x.Latched = true })},
		s: one("t", good(0, 0), good(10, 9), good(20, 0), good(30, 9)),
	}
}

func TestP63States(t *testing.T) {
	unlatched := hot()
	unlatched.l[0].Latched = false
	for _, c := range []struct {
		what   string
		x      scene
		a      acts
		at     int
		state  int
		since  int
		ignore []int
	}{
		{"before all", hot(), nil, 0, api.StateNormal, 0, nil},
		{"just before it is active", hot(), nil, 9, api.StateNormal, 0, nil},
		{"active", hot(), nil, 10, api.StateActive, 10, nil},
		{"still active", hot(), nil, 19, api.StateActive, 10, nil},
		{"returned", hot(), nil, 20, api.StateReturned, 20, nil},
		{"active again", hot(), nil, 30, api.StateActive, 30, nil},
		{"active to the last moment", hot(), nil, api.End - 1, api.StateActive, 30, nil},
		{"not latched", unlatched, nil, 20, api.StateNormal, 20, nil},
		{"acknowledged when it becomes active", hot(), acts{ack("ann", 1, 10)}, 10, api.StateAcked, 10, nil},
		{"acknowledged", hot(), acts{ack("ann", 1, 15)}, 15, api.StateAcked, 15, nil},
		{"not yet acknowledged", hot(), acts{ack("ann", 1, 15)}, 14, api.StateActive, 10, nil},
		{"acknowledged, then inactive", hot(), acts{ack("ann", 1, 15)}, 20, api.StateNormal, 20, nil},
		{"acknowledged, then active again", hot(), acts{ack("ann", 1, 15)}, 30, api.StateActive, 30, nil},
		{"acknowledged before it is active", hot(), acts{ack("ann", 1, 9)}, 10, api.StateActive, 10, []int{0}},
		{"acknowledged twice", hot(), acts{ack("ann", 1, 15), ack("ann", 2, 16)}, 17, api.StateAcked, 15, []int{1}},
		{"acknowledged when it becomes inactive", hot(), acts{ack("ann", 1, 20)}, 20, api.StateNormal, 20, nil},
		{"acknowledged after it returned", hot(), acts{ack("ann", 1, 25)}, 25, api.StateNormal, 25, nil},
		{"acknowledged by two at once", hot(), acts{ack("ann", 1, 25), ack("bob", 1, 25)}, 25, api.StateNormal, 25, []int{1}},
		{"acknowledged by the other one before", hot(), acts{ack("ann", 1, 25), ack("bob", 1, 22)}, 25, api.StateNormal, 22, []int{0}},
		{"acknowledged while active, if not latched", unlatched, acts{ack("ann", 1, 15), ack("ann", 2, 20)}, 17, api.StateAcked, 15, []int{1}},
		{"shelved", hot(), acts{shelve("ann", 1, 5, 8)}, 7, api.StateShelved, 5, nil},
		{"no longer shelved", hot(), acts{shelve("ann", 1, 5, 8)}, 8, api.StateNormal, 8, nil},
		{"shelved from the first moment on", hot(), acts{shelve("ann", 1, 0, 8)}, 7, api.StateShelved, 0, nil},
		{"shelved while active", hot(), acts{shelve("ann", 1, 12, 14)}, 14, api.StateActive, 14, nil},
		{"active while shelved", hot(), acts{shelve("ann", 1, 5, 12)}, 12, api.StateActive, 12, nil},
		{"acknowledged while shelved", hot(), acts{shelve("ann", 1, 5, 12), ack("ann", 2, 11)}, 12, api.StateAcked, 12, nil},
		{"shelved when it becomes active", hot(), acts{shelve("ann", 1, 10, 12)}, 10, api.StateShelved, 10, nil},
		{"shelved until it becomes active", hot(), acts{shelve("ann", 1, 5, 10)}, 10, api.StateActive, 10, nil},
		{"shelved for longer", hot(), acts{shelve("ann", 1, 5, 8), shelve("bob", 1, 6, 9)}, 8, api.StateShelved, 5, nil},
		{"shelved for less long", hot(), acts{shelve("ann", 1, 2, 9), shelve("bob", 1, 3, 5)}, 5, api.StateNormal, 5, nil},
		{"shelved for less long, later", hot(), acts{shelve("ann", 1, 2, 9), shelve("bob", 1, 3, 5)}, 9, api.StateNormal, 5, nil},
		{"shelved again at the end", hot(), acts{shelve("ann", 1, 2, 5), shelve("bob", 1, 5, 8)}, 7, api.StateShelved, 2, nil},
		{"shelved again by itself and released", hot(), acts{shelve("ann", 1, 2, 8), release("ann", 2, 3), shelve("ann", 3, 4, 6)}, 6, api.StateNormal, 6, nil},
		{"an old end does not end it", hot(), acts{shelve("ann", 1, 2, 5), release("ann", 2, 3), shelve("ann", 3, 4, 8)}, 6, api.StateShelved, 4, nil},
		{"shelved for all time", hot(), acts{shelve("ann", 1, 2, api.End)}, api.End - 1, api.StateShelved, 2, nil},
		{"released", hot(), acts{shelve("ann", 1, 2, 8), release("bob", 1, 4)}, 4, api.StateNormal, 4, nil},
		{"released at the end", hot(), acts{shelve("ann", 1, 2, 8), release("bob", 1, 8)}, 8, api.StateNormal, 8, []int{1}},
		{"released just before the end", hot(), acts{shelve("ann", 1, 2, 8), release("bob", 1, 7)}, 8, api.StateNormal, 7, nil},
		{"released and shelved at once", hot(), acts{shelve("ann", 1, 2, 8), release("ann", 2, 4), shelve("bob", 1, 4, 9)}, 8, api.StateShelved, 2, nil},
		{"shelved and released at once", hot(), acts{shelve("ann", 1, 2, 8), release("bob", 1, 2)}, 2, api.StateNormal, 0, nil},
		{"released without need", hot(), acts{release("ann", 1, 2), release("ann", 2, 12)}, 2, api.StateNormal, 0, []int{0, 1}},
		{"acts on another alarm", hot(), acts{onAlarm(ack("ann", 1, 12), "b"), onAlarm(shelve("ann", 2, 12, 14), "b"), onAlarm(release("ann", 3, 13), "b")}, 13, api.StateActive, 10, []int{0, 1, 2}},
		{"no series", scene{l: hot().l}, nil, 50, api.StateNormal, 0, nil},
		{"a series of another tag", scene{l: hot().l, s: one("u", good(0, 9))}, nil, 50, api.StateNormal, 0, nil},
		{"active from the first moment on", scene{l: hot().l, s: one("t", good(0, 9))}, nil, 50, api.StateActive, 0, nil},
	} {
		got, e := alarm.StateAt(c.x.l, c.x.s, c.a, "a", c.at)
		same(t, c.what, []any{got, e}, []any{api.Standing{Alarm: "a", State: c.state, Since: c.since}, api.OK})
		ignored, e := alarm.Ignored(c.x.l, c.x.s, c.a)
		same(t, c.what+": ignored", []any{ignored, e}, []any{c.ignore, api.OK})
	}
}

// onAlarm returns an act on another alarm.
func onAlarm(x api.Act, key string) api.Act {
	x.Alarm = key
	return x
}

// family is the alarm b, active from 10 on, before 20, with the child c, active from 15 on, with the child a, active from 5 on.
func family() scene {
	return scene{
		l: alarms{child(high("a", 0), "c"), high("b", 0), child(high("c", 0), "b")},
		s: series{{Tag: "t", Samples: samples{good(5, 1)}}, {Tag: "u", Samples: samples{good(10, 1), good(20, 0)}}, {Tag: "v", Samples: samples{good(15, 1), good(25, 0)}}},
	}
}

func TestP63Suppressed(t *testing.T) {
	x := family()
	x.l[1].Tag, x.l[2].Tag = "u", "v"
	for _, c := range []struct {
		what  string
		a     acts
		key   string
		at    int
		state int
		since int
	}{
		{"before", nil, "a", 9, api.StateActive, 5},
		{"by a grandparent", nil, "a", 10, api.StateSuppressed, 10},
		{"by both", nil, "a", 15, api.StateSuppressed, 10},
		{"by the parent alone", nil, "a", 20, api.StateSuppressed, 10},
		{"by none any more", nil, "a", 25, api.StateActive, 25},
		{"inactive, but suppressed", nil, "c", 10, api.StateSuppressed, 10},
		{"not by what it suppresses", nil, "c", 20, api.StateActive, 20},
		{"not by anything", nil, "b", 10, api.StateActive, 10},
		{"shelved and suppressed", acts{shelve("ann", 1, 8, 40)}, "a", 12, api.StateSuppressed, 10},
		{"shelved before", acts{shelve("ann", 1, 8, 40)}, "a", 9, api.StateShelved, 8},
		{"still shelved after", acts{shelve("ann", 1, 8, 40)}, "a", 25, api.StateShelved, 25},
		{"shelved only while suppressed", acts{shelve("ann", 1, 12, 24)}, "a", 25, api.StateActive, 25},
		{"acknowledged while suppressed", acts{ack("ann", 1, 12)}, "a", 25, api.StateAcked, 25},
		{"by an acknowledged parent", acts{onAlarm(ack("ann", 1, 10), "b")}, "c", 12, api.StateSuppressed, 10},
		{"by a shelved parent", acts{onAlarm(shelve("ann", 1, 1, 50), "b")}, "c", 12, api.StateSuppressed, 10},
		{"by a suppressed parent", nil, "a", 17, api.StateSuppressed, 10},
	} {
		got, e := alarm.StateAt(x.l, x.s, c.a, c.key, c.at)
		same(t, c.what, []any{got, e}, []any{api.Standing{Alarm: c.key, State: c.state, Since: c.since}, api.OK})
	}
}

func TestP63ReturnedParent(t *testing.T) {
	x := hot()
	x.l = append(x.l, child(high("b", 100), "a"))
	for moment, want := range map[int]api.Standing{12: {State: api.StateSuppressed, Since: 10}, 22: {State: api.StateNormal, Since: 20}} {
		want.Alarm = "b"
		got, e := alarm.StateAt(x.l, x.s, nil, "b", moment)
		same(t, fmt.Sprint("at ", moment), []any{got, e}, []any{want, api.OK})
	}
}

func TestP63Standing(t *testing.T) {
	at := func(key string, limit, priority int) api.Alarm {
		return with(high(key, limit), func(x *api.Alarm) { x.Priority, x.Latched = priority, true })
	}
	x := scene{
		l: alarms{at("a", 1, 2), at("b", 2, 2), at("c", 2, 2), at("d", 3, 1), at("e", 4, 9), at("f", 9, 1), at("g", 1, 1), child(at("h", 1, 1), "a")},
		s: one("t", good(0, 0), good(10, 2), good(20, 3), good(30, 4), good(40, 5)),
	}
	a := acts{onAlarm(ack("ann", 1, 45), "d"), onAlarm(shelve("ann", 2, 45, 60), "g")}
	for moment, want := range map[int]string{
		0:           "[]",
		10:          "[{Alarm:g State:2 Since:10} {Alarm:a State:2 Since:10}]",
		44:          "[{Alarm:g State:2 Since:10} {Alarm:d State:2 Since:30} {Alarm:a State:2 Since:10} {Alarm:b State:2 Since:20} {Alarm:c State:2 Since:20} {Alarm:e State:2 Since:40}]",
		45:          "[{Alarm:d State:3 Since:45} {Alarm:a State:2 Since:10} {Alarm:b State:2 Since:20} {Alarm:c State:2 Since:20} {Alarm:e State:2 Since:40}]",
		api.End - 1: "[{Alarm:d State:3 Since:45} {Alarm:g State:2 Since:60} {Alarm:a State:2 Since:10} {Alarm:b State:2 Since:20} {Alarm:c State:2 Since:20} {Alarm:e State:2 Since:40}]",
	} {
		got, e := alarm.Standing(x.l, x.s, a, moment)
		same(t, fmt.Sprint("at ", moment), []any{got, e}, []any{want, api.OK})
	}
	x.s[0].Samples = append(x.s[0].Samples, good(50, 2))
	got, e := alarm.Standing(x.l, x.s, a, 50)
	same(t, "returned ones", []any{got, e}, []any{"[{Alarm:a State:2 Since:10} {Alarm:b State:4 Since:50} {Alarm:c State:4 Since:50} {Alarm:e State:4 Since:50}]", api.OK})
}

func TestP63Log(t *testing.T) {
	x := hot()
	x.l = append(x.l, child(high("b", -1), "a"))
	a := acts{shelve("ann", 1, 12, 14), ack("ann", 2, 14), shelve("ann", 3, 35, 40), release("ann", 4, 35), release("ann", 5, 36)}
	entries := names{
		"{Alarm:b State:2 Since:0}",
		"{Alarm:a State:2 Since:10}", "{Alarm:b State:6 Since:10}",
		"{Alarm:a State:5 Since:12}", "{Alarm:a State:3 Since:14}",
		"{Alarm:a State:1 Since:20}", "{Alarm:b State:2 Since:20}",
		"{Alarm:a State:2 Since:30}", "{Alarm:b State:6 Since:30}",
	}
	for w, want := range map[api.Window]names{
		window(0, api.End):       entries,
		window(0, 1):             entries[:1],
		window(1, 10):            nil,
		window(1, 11):            entries[1:3],
		window(10, 20):           entries[1:5],
		window(14, 15):           entries[4:5],
		window(20, 31):           entries[5:],
		window(20, 30):           entries[5:7],
		window(31, api.End):      nil,
		window(20, 20):           nil,
		window(0, 0):             nil,
		window(api.End, api.End): nil,
	} {
		got, e := alarm.Log(x.l, x.s, a, w)
		same(t, fmt.Sprint("log of ", w), []any{got, e}, []any{want, api.OK})
	}
}

// TestP63MergedActs: the order of merges makes no difference.
func TestP63MergedActs(t *testing.T) {
	r := rand.New(rand.NewSource(65))
	for range 200 {
		x := someScene(r, 40)
		var a, b acts
		for _, y := range x.a {
			a, b = append(a, y), append(b, y)
			if n := r.Intn(3); n == 0 {
				a = a[:len(a)-1]
			} else if n == 1 {
				b = b[:len(b)-1]
			}
		}
		ab, e1 := alarm.Merge(a, b)
		ba, e2 := alarm.Merge(b, a)
		same(t, "merged", []any{ab, e1}, []any{x.a, api.OK})
		same(t, "merged the other way", []any{ba, e2}, []any{x.a, api.OK})
	}
}

func TestP63Errors(t *testing.T) {
	x := hot()
	for _, moment := range []int{-1, api.End, math.MinInt, math.MaxInt} {
		got, e := alarm.StateAt(x.l, x.s, nil, "a", moment)
		same(t, fmt.Sprint("StateAt ", moment), []any{got, e}, []any{api.Standing{}, api.ErrArg})
		list, e := alarm.Standing(x.l, x.s, nil, moment)
		same(t, fmt.Sprint("Standing ", moment), []any{list, e}, []any{"[]", api.ErrArg})
	}
	for _, w := range wrongWindows() {
		list, e := alarm.Log(x.l, x.s, nil, w)
		same(t, fmt.Sprint("Log ", w), []any{list, e}, []any{"[]", api.ErrArg})
	}
	for _, key := range []string{"b", "", "A", "aa", "t"} {
		for _, moment := range []int{5, -1} {
			got, e := alarm.StateAt(x.l, x.s, nil, key, moment)
			same(t, "StateAt of "+key, []any{got, e}, []any{api.Standing{}, api.ErrNone})
		}
	}
	got, e := alarm.StateAt(nil, nil, nil, "", 0)
	same(t, "StateAt of no alarm", []any{got, e}, []any{api.Standing{}, api.ErrNone})
}
