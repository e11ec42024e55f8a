package retain

import (
	"cmp"
	"slices"

	"plantlog/api"
	"plantlog/basic"
)

// CheckHolds says what is wrong with holds.
func CheckHolds(h []api.Hold) api.Errno {
	if len(h) > api.MaxHolds {
		return api.ErrLarge
	}
	for i, x := range h {
		switch {
		case !basic.Key(x.Key), x.Tag != "" && !basic.Key(x.Tag):
			return api.ErrName
		case i > 0 && x.Key <= h[i-1].Key:
			return api.ErrOrder
		case !basic.Lasting(x.Time), !basic.Lasting(force(x)):
			return api.ErrArg
		}
	}
	return api.OK
}

// force returns when a hold is in force.
func force(h api.Hold) api.Window { return api.Window{From: h.Made, To: h.Ends} }

// checkTag says what is wrong with holds, then with a tag.
func checkTag(h []api.Hold, tag string) api.Errno {
	if e := CheckHolds(h); e != api.OK {
		return e
	}
	if !basic.Key(tag) {
		return api.ErrName
	}
	return api.OK
}

// checkTimes says what is wrong with a moment, and with a time at which its data is asked for.
func checkTimes(moment, at int) api.Errno {
	if !basic.Moment(moment) || !basic.Moment(at) || moment > at {
		return api.ErrArg
	}
	return api.OK
}

// Held reports whether a hold holds data of a moment.
func Held(h []api.Hold, tag string, moment, at int) (bool, api.Errno) {
	if e := checkTag(h, tag); e != api.OK {
		return false, e
	}
	if e := checkTimes(moment, at); e != api.OK {
		return false, e
	}
	holds := func(x api.Hold) bool {
		return basic.Inside(moment, x.Time) && basic.Inside(at, force(x))
	}
	return slices.ContainsFunc(concerning(h, tag), holds), api.OK
}

// concerning returns the holds that hold data of a tag, by the time at which they were made.
func concerning(h []api.Hold, tag string) []api.Hold {
	var list []api.Hold
	for _, x := range h {
		if x.Tag == "" || x.Tag == tag {
			list = append(list, x)
		}
	}
	slices.SortFunc(list, func(x, y api.Hold) int { return cmp.Compare(x.Made, y.Made) })
	return list
}

// losing returns a function that says from which time on a level does not keep the data of a moment. The holds are those of the tag, by the time at which they were made.
func losing(h []api.Hold) func(l api.Level, moment int) int {
	return func(l api.Level, moment int) int {
		data := interval(l, moment)
		at := data.To + l.Keep + 1
		for _, x := range h {
			// What nothing holds at one time is deleted: this hold, and those after it, come too late.
			if x.Made > at {
				break
			}
			if meet(x.Time, data) {
				at = max(at, x.Ends)
			}
		}
		return at
	}
}

// meet reports whether two windows have a moment in common.
func meet(a, b api.Window) bool { return a.From < b.To && b.From < a.To }
