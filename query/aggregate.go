package query

import (
	"cmp"
	"iter"
	"slices"

	"plantlog/api"
	"plantlog/basic"
)

// valued goes through the valued time of a window.
func valued(l []api.Sample, w api.Window) iter.Seq2[int, api.Window] {
	return basic.Runs(l, w, api.Uncertain)
}

// aggregated returns the integral over a window, and its other aggregates.
func aggregated(l []api.Sample, w api.Window) (int, api.Bucket) {
	sum, b := 0, api.Bucket{Window: w}
	for value, run := range valued(l, w) {
		if b.Good == 0 {
			b.Minimum, b.Maximum = value, value
		}
		b.Minimum, b.Maximum = min(b.Minimum, value), max(b.Maximum, value)
		b.Good += basic.Long(run)
		sum += value * basic.Long(run)
	}
	if b.Good > 0 {
		b.Average = basic.Reduced(sum, b.Good)
	}
	return sum, b
}

// checkedAggregated returns what aggregated does, if nothing is wrong with the series and the window.
func checkedAggregated(l []api.Sample, w api.Window) (int, api.Bucket, api.Errno) {
	if e := checkWithin(w, l); e != api.OK {
		return 0, api.Bucket{}, e
	}
	sum, b := aggregated(l, w)
	return sum, b, api.OK
}

// Integral returns the sum of the values over the valued time, and how long this is.
func Integral(l []api.Sample, w api.Window) (int, int, api.Errno) {
	sum, b, e := checkedAggregated(l, w)
	return sum, b.Good, e
}

// Average returns the average.
func Average(l []api.Sample, w api.Window) (api.Fraction, bool, api.Errno) {
	_, b, e := checkedAggregated(l, w)
	return b.Average, b.Good > 0, e
}

// Extremes returns the least and the greatest value.
func Extremes(l []api.Sample, w api.Window) (int, int, bool, api.Errno) {
	_, b, e := checkedAggregated(l, w)
	return b.Minimum, b.Maximum, b.Good > 0, e
}

// Buckets returns the aggregates of equal intervals.
func Buckets(l []api.Sample, w api.Window, every int) ([]api.Bucket, api.Errno) {
	if e := checkParts(l, w, every); e != api.OK {
		return nil, e
	}
	var buckets []api.Bucket
	for part := range parts(w, every) {
		_, b := aggregated(l, part)
		buckets = append(buckets, b)
	}
	return buckets, api.OK
}

// Median returns the median over time.
func Median(l []api.Sample, w api.Window) (int, bool, api.Errno) {
	if e := checkWithin(w, l); e != api.OK {
		return 0, false, e
	}
	type stay struct{ value, long int }
	var stays []stay
	total := 0
	for value, run := range valued(l, w) {
		stays = append(stays, stay{value, basic.Long(run)})
		total += basic.Long(run)
	}
	slices.SortFunc(stays, func(x, y stay) int { return cmp.Compare(x.value, y.value) })
	so := 0
	for _, x := range stays {
		so += x.long
		if 2*so >= total {
			return x.value, true, api.OK
		}
	}
	return 0, false, api.OK
}

// GoodTime returns for how long the quality is good enough.
func GoodTime(l []api.Sample, w api.Window, worst int) (int, api.Errno) {
	e := checkWithin(w, l)
	switch {
	case e != api.OK:
		return 0, e
	case worst != api.Good && worst != api.Uncertain:
		return 0, api.ErrKind
	}
	good := 0
	for _, run := range basic.Runs(l, w, worst) {
		good += basic.Long(run)
	}
	return good, api.OK
}

// Above returns the windows in which the value is greater than a limit, and how long they are.
func Above(l []api.Sample, w api.Window, limit int) ([]api.Window, int, api.Errno) {
	e := checkWithin(w, l)
	switch {
	case e != api.OK:
		return nil, 0, e
	case !basic.Value(limit):
		return nil, 0, api.ErrArg
	}
	var above []api.Window
	total := 0
	for value, run := range valued(l, w) {
		if value > limit {
			above = joined(above, run)
			total += basic.Long(run)
		}
	}
	return above, total, api.OK
}

// joined adds a window after others: as a part of the last one, if this ends where it begins.
func joined(list []api.Window, w api.Window) []api.Window {
	last := len(list) - 1
	if last < 0 || list[last].To < w.From {
		return append(list, w)
	}
	list[last].To = w.To
	return list
}

// Compare returns for how long two series have values, and for how long these differ.
func Compare(a, b []api.Sample, w api.Window, within int) (int, int, api.Errno) {
	e := checkWithin(w, a, b)
	switch {
	case e != api.OK:
		return 0, 0, e
	case !basic.Within(within, 0, 2*api.MaxValue):
		return 0, 0, api.ErrArg
	}
	both, apart := 0, 0
	for x, run := range valued(a, w) {
		for y, common := range valued(b, run) {
			both += basic.Long(common)
			if basic.Distance(x, y) > within {
				apart += basic.Long(common)
			}
		}
	}
	return both, apart, api.OK
}
