package alarm

import (
	"maps"
	"slices"

	"plantlog/api"
	"plantlog/basic"
)

// watch is an alarm with all that its reported state depends on.
type watch struct {
	alarm    api.Alarm
	state    int      // what goes on below shelving and suppression
	until    int      // when its shelving ends; 0 if it is not shelved
	under    []*watch // the alarms that it suppresses while it is active
	above    int      // how many active alarms suppress it
	reported api.Standing
}

// activate makes an alarm active.
func (x *watch) activate() {
	x.state = api.StateActive
	for _, y := range x.under {
		y.above++
	}
}

// deactivate makes an alarm inactive.
func (x *watch) deactivate() {
	if x.state == api.StateActive && x.alarm.Latched {
		x.state = api.StateReturned
	} else {
		x.state = api.StateNormal
	}
	for _, y := range x.under {
		y.above--
	}
}

// unshelve ends the shelving of an alarm, if it has not been shelved for another time since.
func (x *watch) unshelve(at int) {
	if x.until == at {
		x.until = 0
	}
}

// obey does what an operator wants; false if this is ignored.
func (x *watch) obey(y api.Act) bool {
	switch {
	case y.Kind == api.ActShelve:
		x.until = y.Until
	case y.Kind == api.ActRelease && x.until > 0:
		x.until = 0
	case y.Kind == api.ActAck && x.state == api.StateActive:
		x.state = api.StateAcked
	case y.Kind == api.ActAck && x.state == api.StateReturned:
		x.state = api.StateNormal
	default:
		return false
	}
	return true
}

// visible returns the state that has to be reported.
func (x *watch) visible() int {
	switch {
	case x.above > 0:
		return api.StateSuppressed
	case x.until > 0:
		return api.StateShelved
	}
	return x.state
}

// history is what happens to alarms.
type history struct {
	watches []*watch // in the order of keys
	byKey   map[string]*watch
	events  map[int][]func() // what happens at a moment, in order
	ignored []int            // the indices of the acts that were ignored
}

// expect returns all that will happen to alarms before a moment. What happens at one moment is added in its order: activity, ends of shelving, acts.
func expect(l []api.Alarm, s []api.Series, a []api.Act, until int) *history {
	h := &history{byKey: map[string]*watch{}, events: map[int][]func(){}}
	for _, x := range l {
		h.include(x)
	}
	for _, x := range h.watches {
		for y := h.byKey[x.alarm.Parent]; y != nil; y = h.byKey[y.alarm.Parent] {
			y.under = append(y.under, x)
		}
	}
	add := func(at int, event func()) {
		if at < until {
			h.events[at] = append(h.events[at], event)
		}
	}
	h.expectActivity(s, until, add)
	h.expectEnds(a, add)
	h.expectActs(a, add)
	return h
}

func (h *history) include(x api.Alarm) {
	y := &watch{alarm: x, state: api.StateNormal, reported: api.Standing{Alarm: x.Key, State: api.StateNormal}}
	h.watches = append(h.watches, y)
	h.byKey[x.Key] = y
}

func (h *history) expectActivity(s []api.Series, until int, add func(at int, event func())) {
	samples := basic.ByTag(s)
	for _, x := range h.watches {
		for _, w := range windows(x.alarm, samples[x.alarm.Tag], until) {
			add(w.From, x.activate)
			add(w.To, x.deactivate)
		}
	}
}

func (h *history) expectEnds(a []api.Act, add func(at int, event func())) {
	for _, y := range a {
		if x := h.byKey[y.Alarm]; x != nil && y.Kind == api.ActShelve {
			add(y.Until, func() { x.unshelve(y.Until) })
		}
	}
}

// expectActs relies on the order of acts: those of one moment stay in it.
func (h *history) expectActs(a []api.Act, add func(at int, event func())) {
	for i, y := range a {
		x := h.byKey[y.Alarm]
		add(y.At, func() {
			if x == nil || !x.obey(y) {
				h.ignored = append(h.ignored, i)
			}
		})
	}
}

// happen lets all happen, moment after moment. It calls changed for each change of a reported state, in the order of time, then key.
func (h *history) happen(changed func(before, after api.Standing)) {
	for _, at := range slices.Sorted(maps.Keys(h.events)) {
		for _, event := range h.events[at] {
			event()
		}
		for _, x := range h.watches {
			before, state := x.reported, x.visible()
			if state != before.State {
				x.reported.State, x.reported.Since = state, at
				changed(before, x.reported)
			}
		}
	}
}

// unseen is for those who ask only how a history ends.
func unseen(_, _ api.Standing) {}
