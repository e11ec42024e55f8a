// Package sample validates and merges series of samples, and finds what is wrong in them.
package sample

import (
	"slices"

	"plantlog/api"
	"plantlog/basic"
)

// CheckSample says what is wrong with a sample.
func CheckSample(x api.Sample) api.Errno {
	switch {
	case !basic.Moment(x.At):
		return api.ErrArg
	case !basic.Quality(x.Quality):
		return api.ErrKind
	case !basic.Value(x.Value):
		return api.ErrArg
	case x.Quality == api.Bad && x.Value != 0:
		return api.ErrForm
	}
	return api.OK
}

// CheckSeries says what is wrong with a series.
func CheckSeries(l []api.Sample) api.Errno {
	if len(l) > api.MaxSamples {
		return api.ErrLarge
	}
	for i, x := range l {
		if e := CheckSample(x); e != api.OK {
			return e
		}
		if i > 0 && x.At <= l[i-1].At {
			return api.ErrOrder
		}
	}
	return api.OK
}

// Merge returns the samples of both series.
func Merge(a, b []api.Sample) ([]api.Sample, api.Errno) {
	if e := checkEach(CheckSeries, a, b); e != api.OK {
		return nil, e
	}
	var merged []api.Sample
	add := func(x api.Sample) { merged = append(merged, x) }
	basic.Align(a, b, basic.ByMoment, add, func(x, y api.Sample) { add(better(x, y)) })
	if len(merged) > api.MaxSamples {
		return nil, api.ErrLarge
	}
	return merged, api.OK
}

// checkEach returns the first error of several lists.
func checkEach[T any](check func([]T) api.Errno, lists ...[]T) api.Errno {
	for _, l := range lists {
		if e := check(l); e != api.OK {
			return e
		}
	}
	return api.OK
}

func better(x, y api.Sample) api.Sample {
	if x.Quality < y.Quality || x.Quality == y.Quality && x.Value > y.Value {
		return x
	}
	return y
}

// Slice returns the samples in a window.
func Slice(l []api.Sample, w api.Window) ([]api.Sample, api.Errno) {
	if e := checkWithin(l, w); e != api.OK {
		return nil, e
	}
	return slices.Clone(l[basic.Position(l, w.From):basic.Position(l, w.To)]), api.OK
}

func checkWithin(l []api.Sample, w api.Window) api.Errno {
	if e := CheckSeries(l); e != api.OK {
		return e
	}
	if !basic.Window(w) {
		return api.ErrArg
	}
	return api.OK
}
