package alarm

import (
	"cmp"
	"slices"
	"strconv"
	"strings"

	"plantlog/api"
	"plantlog/basic"
)

const maxLong = 7 * api.DayLong

// often reports whether n is in the range of how many times an alarm may become active.
func often(n int) bool { return basic.Within(n, 1, api.MaxSamples) }

// lasting reports whether n is in the range of how long something lasts.
func lasting(n int) bool { return basic.Within(n, 1, maxLong) }

// checkCrowds says what is wrong with alarms, series, a window, and with what a flood is.
func checkCrowds(l []api.Alarm, s []api.Series, w api.Window, many, long int) api.Errno {
	e := checkWithin(l, s, w)
	if e == api.OK && (!often(many) || !lasting(long)) {
		return api.ErrArg
	}
	return e
}

// activations returns the moments of a window at which an alarm becomes active.
func activations(x api.Alarm, l []api.Sample, w api.Window) []int {
	var times []int
	for _, active := range windows(x, l, w.To) {
		if basic.Inside(active.From, w) {
			times = append(times, active.From)
		}
	}
	return times
}

// floods returns when rising times lie close together: at least many of them within long milliseconds. Those that share a time are one.
func floods(times []int, many, long int) []api.Window {
	var list []api.Window
	end, shared := 0, 0 // after the last time that is close to this one; after the last one of the last flood
	for i, from := range times {
		for end < len(times) && times[end]-from < long {
			end++
		}
		if end-i < many {
			continue
		}
		flood := api.Window{From: from, To: times[end-1] + 1}
		if last := len(list) - 1; i < shared {
			list[last].To = flood.To
		} else {
			list = append(list, flood)
		}
		shared = end
	}
	return list
}

// Chattering returns the alarms that become active too often.
func Chattering(l []api.Alarm, s []api.Series, w api.Window, many, long int) ([]string, api.Errno) {
	if e := checkCrowds(l, s, w, many, long); e != api.OK {
		return nil, e
	}
	samples := basic.ByTag(s)
	var keys []string
	for _, x := range l {
		if len(floods(activations(x, samples[x.Tag], w), many, long)) > 0 {
			keys = append(keys, x.Key)
		}
	}
	return keys, api.OK
}

// Floods returns the windows in which alarms come in great numbers.
func Floods(l []api.Alarm, s []api.Series, w api.Window, many, long int) ([]api.Window, api.Errno) {
	if e := checkCrowds(l, s, w, many, long); e != api.OK {
		return nil, e
	}
	samples := basic.ByTag(s)
	var times []int
	for _, x := range l {
		times = append(times, activations(x, samples[x.Tag], w)...)
	}
	slices.Sort(times)
	return floods(times, many, long), api.OK
}

// Duties returns for how long each alarm was active.
func Duties(l []api.Alarm, s []api.Series, w api.Window) ([]api.Pair, api.Errno) {
	if e := checkWithin(l, s, w); e != api.OK {
		return nil, e
	}
	type duty struct {
		key  string
		long int
	}
	samples := basic.ByTag(s)
	var duties []duty
	for _, x := range l {
		if long := activeTime(x, samples[x.Tag], w); long > 0 {
			duties = append(duties, duty{x.Key, long})
		}
	}
	slices.SortFunc(duties, func(x, y duty) int {
		return cmp.Or(cmp.Compare(y.long, x.long), strings.Compare(x.key, y.key))
	})
	var pairs []api.Pair
	for _, x := range duties {
		pairs = append(pairs, api.Pair{Name: x.key, Value: strconv.Itoa(x.long)})
	}
	return pairs, api.OK
}

// activeTime returns for how many milliseconds of a window an alarm is active.
func activeTime(x api.Alarm, l []api.Sample, w api.Window) int {
	long := 0
	for _, active := range windows(x, l, w.To) {
		long += max(active.To-max(active.From, w.From), 0)
	}
	return long
}
