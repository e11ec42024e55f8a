package batch

import (
	"slices"

	"plantlog/api"
	"plantlog/basic"
	"plantlog/sample"
)

// CheckTrigger says what is wrong with a trigger.
func CheckTrigger(t api.Trigger) api.Errno {
	within := basic.Within(t.Join, 0, api.DayLong) && basic.Within(t.Least, 0, api.DayLong)
	if !basic.Value(t.Start) || !basic.Value(t.Stop) || t.Stop > t.Start || !within {
		return api.ErrArg
	}
	return api.OK
}

// Frames returns the frames of a series.
func Frames(t api.Trigger, l []api.Sample, until int) ([]api.Window, api.Errno) {
	if e := CheckTrigger(t); e != api.OK {
		return nil, e
	}
	if e := sample.CheckSeries(l); e != api.OK {
		return nil, e
	}
	if !basic.Within(until, 0, api.End) {
		return nil, api.ErrArg
	}
	short := func(f api.Window) bool { return basic.Long(f) < t.Least }
	frames := slices.DeleteFunc(joined(triggered(t, l, until), t.Join), short)
	if len(frames) > api.MaxFrames {
		return nil, api.ErrLarge
	}
	return frames, api.OK
}

// triggered returns the frames that a trigger finds up to a moment, before any are joined or dropped.
func triggered(t api.Trigger, l []api.Sample, until int) []api.Window {
	var frames []api.Window
	current := false
	for _, x := range l[:basic.Position(l, until)] {
		switch {
		case x.Quality == api.Bad:
			continue
		case !current && x.Value >= t.Start:
			current = true
			frames = append(frames, api.Window{From: x.At, To: until})
		case current && x.Value < t.Stop:
			current = false
			frames[len(frames)-1].To = x.At
		}
	}
	return frames
}

// joined returns frames with those joined that are less than some milliseconds apart.
func joined(frames []api.Window, apart int) []api.Window {
	var list []api.Window
	for _, f := range frames {
		last := len(list) - 1
		if last >= 0 && f.From-list[last].To < apart {
			list[last].To = f.To
		} else {
			list = append(list, f)
		}
	}
	return list
}

// Overlaps returns the windows that lie in frames of both lists, and how long they are.
func Overlaps(a, b []api.Window) ([]api.Window, int, api.Errno) {
	if e := CheckFrames(a); e != api.OK {
		return nil, 0, e
	}
	if e := CheckFrames(b); e != api.OK {
		return nil, 0, e
	}
	var overlaps []api.Window
	total := 0
	for len(a) > 0 && len(b) > 0 {
		both := api.Window{From: max(a[0].From, b[0].From), To: min(a[0].To, b[0].To)}
		if both.From < both.To {
			overlaps = append(overlaps, both)
			total += basic.Long(both)
		}
		if a[0].To < b[0].To {
			a = a[1:]
		} else {
			b = b[1:]
		}
	}
	return overlaps, total, api.OK
}
