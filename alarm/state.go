package alarm

import (
	"cmp"
	"slices"
	"strings"

	"plantlog/api"
	"plantlog/basic"
)

// StateAt returns the state of an alarm.
func StateAt(l []api.Alarm, s []api.Series, a []api.Act, key string, at int) (api.Standing, api.Errno) {
	if e := checkAll(l, s, a); e != api.OK {
		return api.Standing{}, e
	}
	index := slices.IndexFunc(l, func(x api.Alarm) bool { return x.Key == key })
	switch {
	case index < 0:
		return api.Standing{}, api.ErrNone
	case !basic.Moment(at):
		return api.Standing{}, api.ErrArg
	}
	h := expect(l, s, a, at+1)
	h.happen(unseen)
	return h.watches[index].reported, api.OK
}

// Standing returns the alarms that operators look at.
func Standing(l []api.Alarm, s []api.Series, a []api.Act, at int) ([]api.Standing, api.Errno) {
	if e := checkAll(l, s, a); e != api.OK {
		return nil, e
	}
	if !basic.Moment(at) {
		return nil, api.ErrArg
	}
	h := expect(l, s, a, at+1)
	h.happen(unseen)
	watches := slices.DeleteFunc(h.watches, func(x *watch) bool {
		return !basic.Within(x.reported.State, api.StateActive, api.StateReturned)
	})
	slices.SortFunc(watches, func(x, y *watch) int {
		return cmp.Or(cmp.Compare(x.alarm.Priority, y.alarm.Priority), cmp.Compare(x.reported.Since, y.reported.Since), strings.Compare(x.alarm.Key, y.alarm.Key))
	})
	var list []api.Standing
	for _, x := range watches {
		list = append(list, x.reported)
	}
	return list, api.OK
}

// Ignored returns the acts that are ignored.
func Ignored(l []api.Alarm, s []api.Series, a []api.Act) ([]int, api.Errno) {
	if e := checkAll(l, s, a); e != api.OK {
		return nil, e
	}
	h := expect(l, s, a, api.End)
	h.happen(unseen)
	slices.Sort(h.ignored)
	return h.ignored, api.OK
}

// Log returns all changes of reported states within a window.
func Log(l []api.Alarm, s []api.Series, a []api.Act, w api.Window) ([]api.Standing, api.Errno) {
	if e := checkAll(l, s, a); e != api.OK {
		return nil, e
	}
	if !basic.Window(w) {
		return nil, api.ErrArg
	}
	var changes []api.Standing
	expect(l, s, a, w.To).happen(func(_, after api.Standing) {
		if basic.Inside(after.Since, w) {
			changes = append(changes, after)
		}
	})
	return changes, api.OK
}

// Stale returns the alarms that have stood for too long.
func Stale(l []api.Alarm, s []api.Series, a []api.Act, at, long int) ([]string, api.Errno) {
	if e := checkAll(l, s, a); e != api.OK {
		return nil, e
	}
	if !basic.Moment(at) || !lasting(long) {
		return nil, api.ErrArg
	}
	since := map[string]int{} // of those that stand
	h := expect(l, s, a, at+1)
	h.happen(func(before, after api.Standing) {
		if !stands(before) {
			since[after.Alarm] = after.Since
		}
	})
	var stale []string
	for _, x := range h.watches {
		if stands(x.reported) && at-since[x.alarm.Key] > long {
			stale = append(stale, x.alarm.Key)
		}
	}
	return stale, api.OK
}

// stands reports whether an alarm is reported as active, acknowledged or not.
func stands(x api.Standing) bool {
	return x.State == api.StateActive || x.State == api.StateAcked
}
