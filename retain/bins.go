package retain

import (
	"cmp"
	"slices"

	"plantlog/api"
	"plantlog/basic"
	"plantlog/sample"
)

// most is how many good samples, or others, a bin can count.
const most = api.MaxSamples * 1000

// Bins returns the bins of a series.
func Bins(s []api.Sample, step int) ([]api.Bin, api.Errno) {
	if e := sample.CheckSeries(s); e != api.OK {
		return nil, e
	}
	if !isStep(step) {
		return nil, api.ErrArg
	}
	return rolled(s, step), api.OK
}

// rolled returns the bins of samples.
func rolled(s []api.Sample, step int) []api.Bin {
	var list []api.Bin
	for _, x := range s {
		b := api.Bin{From: x.At, Other: 1}
		if x.Quality == api.Good {
			b = api.Bin{From: x.At, Sum: x.Value, Count: 1, Low: x.Value, High: x.Value}
		}
		list = gathered(list, b, step)
	}
	return list
}

// gathered returns bins of a step with a later bin, of the same or a smaller step, added.
func gathered(list []api.Bin, b api.Bin, step int) []api.Bin {
	b.From -= b.From % step
	last := len(list) - 1
	if last < 0 || list[last].From != b.From {
		return append(list, b)
	}
	list[last] = combined(list[last], b)
	return list
}

// combined returns two bins of one interval as one.
func combined(a, b api.Bin) api.Bin {
	low, high := min(a.Low, b.Low), max(a.High, b.High)
	switch {
	case a.Count == 0:
		low, high = b.Low, b.High
	case b.Count == 0:
		low, high = a.Low, a.High
	}
	return api.Bin{From: a.From, Sum: a.Sum + b.Sum, Count: a.Count + b.Count, Other: a.Other + b.Other, Low: low, High: high}
}

// CheckBins says what is wrong with bins.
func CheckBins(b []api.Bin, step int) api.Errno {
	switch {
	case !isStep(step):
		return api.ErrArg
	case len(b) > api.MaxBins:
		return api.ErrLarge
	}
	for i, x := range b {
		if e := checkBin(x, step); e != api.OK {
			return e
		}
		if i > 0 && x.From <= b[i-1].From {
			return api.ErrOrder
		}
	}
	return api.OK
}

// checkBin says what is wrong with a bin alone.
func checkBin(b api.Bin, step int) api.Errno {
	switch {
	case !basic.Moment(b.From), b.From%step != 0, !countable(b):
		return api.ErrArg
	case b.Count == 0 && b.Other == 0:
		return api.ErrNone
	case !basic.Value(b.Low), !basic.Value(b.High):
		return api.ErrArg
	case b.Count == 0 && (b.Low != 0 || b.High != 0):
		return api.ErrForm
	case !basic.Within(b.Sum, b.Count*b.Low, b.Count*b.High):
		return api.ErrForm
	}
	return api.OK
}

// countable reports whether a bin can count as many samples as it says.
func countable(b api.Bin) bool {
	return basic.Within(b.Count, 0, most) && basic.Within(b.Other, 0, most)
}

// Coarser returns the bins of a multiple of the step.
func Coarser(b []api.Bin, step, to int) ([]api.Bin, api.Errno) {
	if e := CheckBins(b, step); e != api.OK {
		return nil, e
	}
	switch {
	case !isStep(to):
		return nil, api.ErrArg
	case to%step != 0:
		return nil, api.ErrRule
	}
	var list []api.Bin
	for _, x := range b {
		list = gathered(list, x, to)
	}
	return limited(list)
}

// MergeBins returns the bins of two series.
func MergeBins(a, b []api.Bin, step int) ([]api.Bin, api.Errno) {
	if e := CheckBins(a, step); e != api.OK {
		return nil, e
	}
	if e := CheckBins(b, step); e != api.OK {
		return nil, e
	}
	var merged []api.Bin
	add := func(x api.Bin) { merged = append(merged, x) }
	order := func(x, y api.Bin) int { return cmp.Compare(x.From, y.From) }
	basic.Align(a, b, order, add, func(x, y api.Bin) { add(combined(x, y)) })
	return limited(merged)
}

// limited returns bins if there can be so many, with such counts.
func limited(b []api.Bin) ([]api.Bin, api.Errno) {
	tooMuch := func(x api.Bin) bool { return !countable(x) }
	if len(b) > api.MaxBins || slices.ContainsFunc(b, tooMuch) {
		return nil, api.ErrLarge
	}
	return b, api.OK
}
