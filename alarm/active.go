package alarm

import (
	"iter"
	"slices"
	"sort"

	"plantlog/api"
	"plantlog/basic"
)

// What a sample says of an alarm.
const (
	neither = iota
	holds   // the condition holds
	cleared
)

// says returns what a sample says of an alarm.
func says(x api.Alarm, s api.Sample) int {
	bad := s.Quality == api.Bad
	switch {
	case x.Kind == api.AlarmBad && bad:
		return holds
	case x.Kind == api.AlarmBad:
		return cleared
	case bad:
		return neither
	}
	beyond := s.Value - x.Limit
	if x.Kind == api.AlarmLow {
		beyond = -beyond
	}
	switch {
	case beyond > 0:
		return holds
	case beyond <= -x.Deadband:
		return cleared
	}
	return neither
}

// runs goes through the times before a moment at which the samples say one thing of an alarm without interruption.
func runs(x api.Alarm, l []api.Sample, until int) iter.Seq2[int, api.Window] {
	return func(yield func(what int, run api.Window) bool) {
		rest := l[:basic.Position(l, until)]
		for len(rest) > 0 {
			what, run := says(x, rest[0]), api.Window{From: rest[0].At, To: until}
			next := slices.IndexFunc(rest, func(s api.Sample) bool { return says(x, s) != what })
			if next < 0 {
				next = len(rest)
			} else {
				run.To = rest[next].At
			}
			if !yield(what, run) {
				return
			}
			rest = rest[next:]
		}
	}
}

// windows returns when an alarm is active before a moment.
func windows(x api.Alarm, l []api.Sample, until int) []api.Window {
	var list []api.Window
	active := false
	for what, run := range runs(x, l, until) {
		switch {
		case !active && what == holds && run.From+x.On < run.To:
			active = true
			list = append(list, api.Window{From: run.From + x.On, To: until})
		case active && what == cleared && run.From+x.Off < run.To:
			active = false
			list[len(list)-1].To = run.From + x.Off
		}
	}
	return list
}

// Active returns the windows in which an alarm is active.
func Active(x api.Alarm, l []api.Sample, until int) ([]api.Window, api.Errno) {
	if e := checkAlone(x, l); e != api.OK {
		return nil, e
	}
	if !basic.Within(until, 0, api.End) {
		return nil, api.ErrArg
	}
	return windows(x, l, until), api.OK
}

// Deadband returns the least deadband with which an alarm does not become active too often.
func Deadband(x api.Alarm, l []api.Sample, until, many int) (int, bool, api.Errno) {
	if e := checkAlone(x, l); e != api.OK {
		return 0, false, e
	}
	switch {
	case x.Kind == api.AlarmBad:
		return 0, false, api.ErrKind
	case !basic.Within(until, 0, api.End) || !often(many):
		return 0, false, api.ErrArg
	}
	// With a greater deadband an alarm is cleared more seldom, so that it never becomes active more often.
	const most = 2 * api.MaxValue
	least := sort.Search(most+1, func(n int) bool {
		x.Deadband = n
		return len(windows(x, l, until)) <= many
	})
	if least > most {
		return 0, false, api.OK
	}
	return least, true, api.OK
}
