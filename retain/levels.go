package retain

import (
	"slices"

	"plantlog/api"
	"plantlog/basic"
	"plantlog/sample"
)

// checkRules says what is wrong with levels, then with holds and a tag.
func checkRules(l []api.Level, h []api.Hold, tag string) api.Errno {
	if e := CheckLevels(l); e != api.OK {
		return e
	}
	return checkTag(h, tag)
}

// Levels returns the levels that keep the data of a moment.
func Levels(l []api.Level, h []api.Hold, tag string, moment, at int) ([]int, api.Errno) {
	if e := checkRules(l, h, tag); e != api.OK {
		return nil, e
	}
	if e := checkTimes(moment, at); e != api.OK {
		return nil, e
	}
	lost := losing(concerning(h, tag))
	var list []int
	for i, x := range l {
		if at < lost(x, moment) {
			list = append(list, i)
		}
	}
	return list, api.OK
}

// Ends returns the first time at which no level keeps the data of a moment.
func Ends(l []api.Level, h []api.Hold, tag string, moment int) (int, bool, api.Errno) {
	if e := checkRules(l, h, tag); e != api.OK {
		return 0, false, e
	}
	if !basic.Moment(moment) {
		return 0, false, api.ErrArg
	}
	lost := losing(concerning(h, tag))
	last := 0
	for _, x := range l {
		last = max(last, lost(x, moment))
	}
	if !basic.Moment(last) {
		return 0, false, api.OK
	}
	return last, true, api.OK
}

// Purge returns what is left of a series at a time.
func Purge(l []api.Level, h []api.Hold, tag string, s []api.Sample, at int) ([]api.Sample, [][]api.Bin, api.Errno) {
	if e := checkRules(l, h, tag); e != api.OK {
		return nil, nil, e
	}
	if e := sample.CheckSeries(s); e != api.OK {
		return nil, nil, e
	}
	if !basic.Moment(at) {
		return nil, nil, api.ErrArg
	}
	lost := losing(concerning(h, tag))
	var left []api.Sample
	var bins [][]api.Bin
	known := s[:basic.Position(s, at+1)]
	for _, x := range known {
		if at < lost(l[0], x.At) {
			left = append(left, x)
		}
	}
	for _, x := range l[1:] {
		gone := func(b api.Bin) bool { return at >= lost(x, b.From) }
		bins = append(bins, slices.DeleteFunc(rolled(known, x.Step), gone))
	}
	return left, bins, api.OK
}

// Answer returns the coarsest level that answers a query.
func Answer(l []api.Level, h []api.Hold, tag string, w api.Window, step, at int) (int, bool, api.Errno) {
	if e := checkRules(l, h, tag); e != api.OK {
		return 0, false, e
	}
	switch {
	case !basic.Lasting(w), w.To > at, !basic.Moment(at), !isStep(step):
		return 0, false, api.ErrArg
	case w.From%step != 0, w.To%step != 0:
		return 0, false, api.ErrRule
	}
	held := concerning(h, tag)
	for i, x := range slices.Backward(l) {
		if step%length(x) == 0 && at < losingAny(x, held, w) {
			return i, true, api.OK
		}
	}
	return 0, false, api.OK
}

// losingAny returns from which time on a level does not keep all data of a window.
func losingAny(l api.Level, h []api.Hold, w api.Window) int {
	lost := losing(h)
	first := lost(l, w.From)
	for _, x := range h {
		// Later data is lost later, unless a hold that held the data before it does not hold it.
		next := interval(l, x.Time.To-1).To
		if basic.Inside(next, w) {
			first = min(first, lost(l, next))
		}
	}
	return first
}
