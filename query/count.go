package query

import (
	"plantlog/api"
	"plantlog/basic"
	"plantlog/sample"
)

// Total adds up the increases of a counter.
func Total(l []api.Sample, w api.Window, roll int) (int, api.Errno) {
	e := checkWithin(w, l)
	switch {
	case e != api.OK:
		return 0, e
	case !basic.Within(roll, 1, api.MaxRoll):
		return 0, api.ErrArg
	}
	total, last := 0, -1
	for _, x := range l[basic.Position(l, w.From):basic.Position(l, w.To+1)] {
		if x.Quality == api.Bad {
			continue
		}
		if !basic.Within(x.Value, 0, roll-1) {
			return 0, api.ErrRule
		}
		if last >= 0 {
			total += increase(last, x.Value, roll)
		}
		last = x.Value
	}
	return total, api.OK
}

// increase returns by how much a counter that begins anew at roll increases from one value to the next one.
func increase(from, to, roll int) int {
	if to < from {
		to += roll
	}
	return to - from
}

// Count returns how many samples have a quality.
func Count(l []api.Sample, w api.Window, quality int) (int, api.Errno) {
	samples, e := sample.Slice(l, w)
	switch {
	case e != api.OK:
		return 0, e
	case !basic.Quality(quality):
		return 0, api.ErrKind
	}
	count := 0
	for _, x := range samples {
		if x.Quality == quality {
			count++
		}
	}
	return count, api.OK
}
