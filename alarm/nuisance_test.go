package alarm_test

import (
	"fmt"
	"math"
	"math/rand"
	"slices"
	"strconv"
	"testing"

	"plantlog/alarm"
	"plantlog/api"
)

// activeTimes returns for each alarm of a scene the moments at which it is active, as the document says it.
func (x scene) activeTimes(until int) [][]bool {
	var list [][]bool
	for _, y := range x.l {
		var l samples
		for _, s := range x.s {
			if s.Tag == y.Tag {
				l = s.Samples
			}
		}
		list = append(list, told(y, l, until))
	}
	return list
}

// begins returns the moments of a window at which an alarm becomes active.
func begins(active []bool, w api.Window) []int {
	var times []int
	for moment := w.From; moment < w.To; moment++ {
		if active[moment] && (moment == 0 || !active[moment-1]) {
			times = append(times, moment)
		}
	}
	return times
}

// chatters reports whether there are enough times in some long milliseconds.
func chatters(times []int, many, long int) bool {
	for from := range 60 {
		count := 0
		for _, moment := range times {
			if from <= moment && moment <= from+long-1 {
				count++
			}
		}
		if count >= many {
			return true
		}
	}
	return false
}

// flooded returns the floods as the document says them: it joins groups until no two of them share a time.
func flooded(times []int, many, long int) windows {
	var groups [][]int // of indices
	for i := range times {
		var group []int
		for j := i; j < len(times) && times[j] <= times[i]+long-1; j++ {
			group = append(group, j)
		}
		if len(group) >= many {
			groups = append(groups, group)
		}
	}
	for i := 0; i+1 < len(groups); {
		if groups[i][len(groups[i])-1] < groups[i+1][0] {
			i++
			continue
		}
		groups[i] = slices.Compact(slices.Sorted(slices.Values(append(groups[i], groups[i+1]...))))
		groups = slices.Delete(groups, i+1, i+2)
	}
	var list windows
	for _, group := range groups {
		list = append(list, window(times[group[0]], times[group[len(group)-1]]+1))
	}
	return list
}

func TestP64AsTheDocumentSays(t *testing.T) {
	r := rand.New(rand.NewSource(66))
	const end = 40
	count := map[string]int{}
	for range 1500 {
		x := someScene(r, end)
		w := window(r.Intn(end/2), r.Intn(end/2)+end/2)
		many, long := 1+r.Intn(4), 1+r.Intn(15)
		what := fmt.Sprintf("%+v %v %d %d", x, w, many, long)
		active := x.activeTimes(end)
		var all []int
		var keys names
		duties := []api.Pair{}
		for i, y := range x.l {
			times := begins(active[i], w)
			all = append(all, times...)
			if chatters(times, many, long) {
				keys = append(keys, y.Key)
			}
			long := 0
			for _, is := range active[i][w.From:w.To] {
				if is {
					long++
				}
			}
			duties = append(duties, api.Pair{Name: y.Key, Value: strconv.Itoa(long)})
		}
		slices.Sort(all)
		floods := flooded(all, many, long)
		count["chattering"] += len(keys)
		count["floods"] += len(floods)
		gotKeys, e := alarm.Chattering(x.l, x.s, w, many, long)
		same(t, what+" chattering", []any{gotKeys, e}, []any{keys, api.OK})
		gotFloods, e := alarm.Floods(x.l, x.s, w, many, long)
		same(t, what+" floods", []any{gotFloods, e}, []any{floods, api.OK})
		gotDuties, e := alarm.Duties(x.l, x.s, w)
		same(t, what+" duties", []any{gotDuties, e}, []any{longest(duties), api.OK})
		p, at := x.told(end), r.Intn(end)
		stale := x.stale(p, at, long)
		count["stale"] += len(stale)
		gotStale, e := alarm.Stale(x.l, x.s, x.a, at, long)
		same(t, fmt.Sprint(what, " stale ", at), []any{gotStale, e}, []any{stale, api.OK})
	}
	for what, n := range count {
		if n < 200 {
			t.Errorf("%s: %d", what, n)
		}
	}
}

// longest returns duties in their order, by selecting the next one each time.
func longest(duties []api.Pair) []api.Pair {
	var list []api.Pair
	for n := 100; n > 0; n-- {
		for _, x := range duties {
			if x.Value == strconv.Itoa(n) {
				list = append(list, x)
			}
		}
	}
	return list
}

// stale returns what the document says of Stale.
func (x scene) stale(p past, at, long int) names {
	var keys names
	stands := func(state int) bool { return state == api.StateActive || state == api.StateAcked }
	for i, y := range x.l {
		if stands(p.states[i][at]) && at-since(p.states[i], at, stands) > long {
			keys = append(keys, y.Key)
		}
	}
	return keys
}

// bursts has the alarm a active at 0, 10, 20, 100, 200, 205, each time for 5 milliseconds, and b at 20 and 205 only.
func bursts() scene {
	var l samples
	for _, x := range [][2]int{{0, 5}, {10, 5}, {20, 9}, {100, 5}, {200, 5}, {205, 9}} {
		l = append(slices.DeleteFunc(l, func(y api.Sample) bool { return y.At == x[0] }), good(x[0], x[1]), good(x[0]+3, 0))
	}
	return scene{l: alarms{high("a", 4), high("b", 8)}, s: one("t", l...)}
}

func TestP64Chattering(t *testing.T) {
	x := bursts()
	for _, c := range []struct {
		what       string
		w          api.Window
		many, long int
		want       names
	}{
		{"once", window(0, 300), 1, 1, names{"a", "b"}},
		{"twice in 6", window(0, 300), 2, 6, names{"a"}},
		{"not twice in 5", window(0, 300), 2, 5, nil},
		{"three times in 21", window(0, 300), 3, 21, names{"a"}},
		{"not three times in 20", window(0, 300), 3, 20, nil},
		{"b twice", window(0, 300), 2, 186, names{"a", "b"}},
		{"not b", window(0, 300), 2, 185, names{"a"}},
		{"before the window", window(1, 100), 3, 100, nil},
		{"from the first moment of the window on", window(10, 21), 2, 11, names{"a"}},
		{"up to the end of the window", window(10, 20), 2, 11, nil},
		{"b alone does not", window(20, 21), 1, 5, names{"a", "b"}},
		{"only in the window", window(200, 201), 1, 5, names{"a"}},
		{"active, but not becoming so", window(1, 3), 1, 5, nil},
		{"an empty window", window(0, 0), 1, 5, nil},
		{"a window shorter than long", window(0, 21), 3, 1_000, names{"a"}},
		{"all", window(0, api.End), 6, 7 * api.DayLong, names{"a"}},
		{"more than all", window(0, api.End), 7, 7 * api.DayLong, nil},
	} {
		got, e := alarm.Chattering(x.l, x.s, c.w, c.many, c.long)
		same(t, c.what, []any{got, e}, []any{c.want, api.OK})
	}
}

func TestP64Floods(t *testing.T) {
	x := bursts() // 0, 10, 20, 20, 100, 200, 205, 205
	for _, c := range []struct {
		what       string
		w          api.Window
		many, long int
		want       windows
	}{
		{"of one", window(0, 300), 1, 1, windows{window(0, 1), window(10, 11), window(20, 21), window(100, 101), window(200, 201), window(205, 206)}},
		{"of one, together", window(0, 300), 1, 11, windows{window(0, 21), window(100, 101), window(200, 206)}},
		{"of one, apart by a millisecond", window(0, 300), 1, 10, windows{window(0, 1), window(10, 11), window(20, 21), window(100, 101), window(200, 206)}},
		{"of two alarms at once", window(0, 300), 2, 1, windows{window(20, 21), window(205, 206)}},
		{"of two", window(0, 300), 2, 11, windows{window(0, 21), window(200, 206)}},
		{"of three that share one", window(0, 300), 3, 11, windows{window(10, 21), window(200, 206)}},
		{"of four", window(0, 300), 4, 21, windows{window(0, 21)}},
		{"not of four", window(0, 300), 4, 20, nil},
		{"of all", window(0, 300), 8, 206, windows{window(0, 206)}},
		{"shared over gaps", window(0, 300), 2, 101, windows{window(0, 206)}},
		{"just not shared over gaps", window(0, 300), 2, 100, windows{window(0, 101), window(200, 206)}},
		{"from the window on", window(1, 300), 2, 11, windows{window(10, 21), window(200, 206)}},
		{"up to the window's end", window(0, 20), 2, 11, windows{window(0, 11)}},
		{"an empty window", window(20, 20), 1, 11, nil},
		{"more than all", window(0, api.End), 9, 7 * api.DayLong, nil},
		{"many more than all", window(0, api.End), api.MaxSamples, 7 * api.DayLong, nil},
	} {
		got, e := alarm.Floods(x.l, x.s, c.w, c.many, c.long)
		same(t, c.what, []any{got, e}, []any{c.want, api.OK})
	}
}

func TestP64Stale(t *testing.T) {
	x := hot()
	for _, c := range []struct {
		what     string
		a        acts
		at, long int
		want     names
	}{
		{"not longer", nil, 15, 5, nil},
		{"longer", nil, 15, 4, names{"a"}},
		{"acknowledged", acts{ack("ann", 1, 12)}, 15, 4, names{"a"}},
		{"acknowledged, not longer", acts{ack("ann", 1, 12)}, 15, 5, nil},
		{"returned", nil, 29, 1, nil},
		{"since it is active again", nil, 36, 5, names{"a"}},
		{"since it is active again, not longer", nil, 35, 5, nil},
		{"shelved", acts{shelve("ann", 1, 12, 40)}, 15, 1, nil},
		{"interrupted by shelving", acts{shelve("ann", 1, 12, 14)}, 18, 4, nil},
		{"longer since shelving", acts{shelve("ann", 1, 12, 14)}, 19, 4, names{"a"}},
		{"acknowledged while shelved", acts{shelve("ann", 1, 12, 14), ack("bob", 1, 13)}, 19, 4, names{"a"}},
		{"for as long as can be asked", nil, 31 + 7*api.DayLong, 7 * api.DayLong, names{"a"}},
		{"at the last moment", nil, api.End - 1, 1, names{"a"}},
	} {
		got, e := alarm.Stale(x.l, x.s, c.a, c.at, c.long)
		same(t, c.what, []any{got, e}, []any{c.want, api.OK})
	}
	first := scene{l: alarms{high("a", 1), child(high("b", 1), "a"), high("c", 1)}, s: one("t", good(0, 9))}
	got, e := alarm.Stale(first.l, first.s, nil, 5, 4)
	same(t, "from the first moment on, without suppressed ones", []any{got, e}, []any{names{"a", "c"}, api.OK})
	got, e = alarm.Stale(first.l, first.s, nil, 5, 5)
	same(t, "from the first moment on, not longer", []any{got, e}, []any{"[]", api.OK})
}

func TestP64Duties(t *testing.T) {
	x := scene{
		l: alarms{high("a", 4), high("b", 2), high("c", 4), high("d", 9), high("e", 0)},
		s: one("t", good(5, 3), good(10, 5), good(20, 0)),
	}
	for w, want := range map[api.Window]string{
		window(0, 30):            "[{Name:b Value:15} {Name:e Value:15} {Name:a Value:10} {Name:c Value:10}]",
		window(0, 10):            "[{Name:b Value:5} {Name:e Value:5}]",
		window(9, 11):            "[{Name:b Value:2} {Name:e Value:2} {Name:a Value:1} {Name:c Value:1}]",
		window(19, 30):           "[{Name:a Value:1} {Name:b Value:1} {Name:c Value:1} {Name:e Value:1}]",
		window(20, 30):           "[]",
		window(15, 15):           "[]",
		window(0, 0):             "[]",
		window(0, api.End):       "[{Name:b Value:15} {Name:e Value:15} {Name:a Value:10} {Name:c Value:10}]",
		window(api.End, api.End): "[]",
	} {
		got, e := alarm.Duties(x.l, x.s, w)
		same(t, fmt.Sprint("duties in ", w), []any{got, e}, []any{want, api.OK})
	}
	got, e := alarm.Duties(alarms{high("a", 4)}, one("t", good(0, 5)), window(0, api.End))
	same(t, "all the time", []any{got, e}, []any{"[{Name:a Value:345686400000}]", api.OK})
}

func TestP64Errors(t *testing.T) {
	x := hot()
	fine := window(0, 50)
	for c, want := range map[[2]int]api.Errno{
		{1, 1}:                                  api.OK,
		{api.MaxSamples, 7 * api.DayLong}:       api.OK,
		{0, 1}:                                  api.ErrArg,
		{api.MaxSamples + 1, 1}:                 api.ErrArg,
		{math.MinInt, 1}:                        api.ErrArg,
		{1, 0}:                                  api.ErrArg,
		{1, -1}:                                 api.ErrArg,
		{1, 7*api.DayLong + 1}:                  api.ErrArg,
		{math.MaxInt, math.MaxInt}:              api.ErrArg,
		{api.MaxSamples + 1, 7*api.DayLong + 1}: api.ErrArg,
	} {
		_, e := alarm.Chattering(x.l, x.s, fine, c[0], c[1])
		same(t, fmt.Sprint("Chattering ", c), e, want)
		_, e = alarm.Floods(x.l, x.s, fine, c[0], c[1])
		same(t, fmt.Sprint("Floods ", c), e, want)
		if c[0] == 1 {
			_, e = alarm.Stale(x.l, x.s, nil, 5, c[1])
			same(t, fmt.Sprint("Stale ", c), e, want)
		}
	}
	for _, w := range wrongWindows() {
		keys, e := alarm.Chattering(x.l, x.s, w, 1, 1)
		same(t, fmt.Sprint("Chattering ", w), []any{keys, e}, []any{"[]", api.ErrArg})
		floods, e := alarm.Floods(x.l, x.s, w, 1, 1)
		same(t, fmt.Sprint("Floods ", w), []any{floods, e}, []any{"[]", api.ErrArg})
		duties, e := alarm.Duties(x.l, x.s, w)
		same(t, fmt.Sprint("Duties ", w), []any{duties, e}, []any{"[]", api.ErrArg})
	}
	for _, at := range []int{-1, api.End, math.MinInt, math.MaxInt} {
		keys, e := alarm.Stale(x.l, x.s, nil, at, 1)
		same(t, fmt.Sprint("Stale ", at), []any{keys, e}, []any{"[]", api.ErrArg})
	}
}
