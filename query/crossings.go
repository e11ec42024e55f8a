package query

import (
	"plantlog/api"
	"plantlog/basic"
)

// Crossings returns the times at which a limit is crossed.
func Crossings(l []api.Sample, w api.Window, limit int) ([]api.Fraction, api.Errno) {
	e := checkWithin(w, l)
	switch {
	case e != api.OK:
		return nil, e
	case !basic.Value(limit):
		return nil, api.ErrArg
	}
	var times []api.Fraction
	last := -1 // the last sample that is not equal to the limit, if none after it is Bad
	for i, x := range l {
		switch {
		case x.Quality == api.Bad:
			last = -1
			continue
		case x.Value == limit:
			continue
		case last >= 0 && (l[last].Value < limit) != (x.Value < limit):
			if time := crossing(l[last:i+1], limit); inside(time, w) {
				times = append(times, time)
			}
		}
		last = i
	}
	return times, api.OK
}

// crossing returns when the limit is crossed between the first and the last sample, if those between are equal to it.
func crossing(l []api.Sample, limit int) api.Fraction {
	if len(l) > 2 {
		return api.Fraction{Num: l[1].At, Den: 1}
	}
	a, b := l[0], l[1]
	rise := basic.Distance(a.Value, b.Value)
	return basic.Reduced(a.At*rise+basic.Distance(a.Value, limit)*(b.At-a.At), rise)
}

// inside reports whether a time is in w; by the limits, all products are far below the greatest int.
func inside(time api.Fraction, w api.Window) bool {
	return w.From*time.Den <= time.Num && time.Num < w.To*time.Den
}
