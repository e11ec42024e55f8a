package sample

import (
	"slices"
	"sort"

	"plantlog/api"
	"plantlog/basic"
)

// Fixed applies the fixes up to a moment.
func Fixed(l []api.Sample, f []api.Fix, at int) ([]api.Sample, api.Errno) {
	if e := CheckSeries(l); e != api.OK {
		return nil, e
	}
	if e := checkUpTo(f, at); e != api.OK {
		return nil, e
	}
	return applied(l, upTo(f, at))
}

func checkUpTo(f []api.Fix, at int) api.Errno {
	if e := CheckFixes(f); e != api.OK {
		return e
	}
	return checkMoment(at)
}

func upTo(f []api.Fix, at int) []api.Fix {
	return f[:sort.Search(len(f), func(i int) bool { return f[i].Made > at })]
}

// applied returns a copy of the series to which all fixes are applied; only its end is bounded, not what it has in between.
func applied(l []api.Sample, f []api.Fix) ([]api.Sample, api.Errno) {
	l = slices.Clone(l)
	for _, x := range f {
		switch x.Kind {
		case api.FixSet:
			l = with(l, x.Sample)
		case api.FixDelete:
			l = without(l, x.At)
		case api.FixMark:
			mark(l[basic.Position(l, x.Time.From):basic.Position(l, x.Time.To)], x.Quality)
		}
	}
	if len(l) > api.MaxSamples {
		return nil, api.ErrLarge
	}
	return l, api.OK
}

// with replaces the sample at the moment of x, or adds x.
func with(l []api.Sample, x api.Sample) []api.Sample {
	l = without(l, x.At)
	return slices.Insert(l, basic.Position(l, x.At), x)
}

// without removes the sample at a moment, if there is one.
func without(l []api.Sample, at int) []api.Sample {
	return slices.Delete(l, basic.Position(l, at), basic.Position(l, at+1))
}

func mark(l []api.Sample, quality int) {
	for i, x := range l {
		switch {
		case x.Quality == api.Bad:
			// Its value is lost.
		case quality == api.Bad:
			l[i] = api.Sample{At: x.At, Quality: api.Bad}
		default:
			l[i].Quality = quality
		}
	}
}

// Overridden returns the fixes that have no effect any more.
func Overridden(f []api.Fix, at int) ([]int, api.Errno) {
	if e := checkUpTo(f, at); e != api.OK {
		return nil, e
	}
	f = upTo(f, at)
	var overridden []int
	for i, x := range f {
		if isOverridden(x, f[i+1:]) {
			overridden = append(overridden, i)
		}
	}
	return overridden, api.OK
}

// isOverridden reports whether a fix has no effect because of the fixes after it.
func isOverridden(x api.Fix, later []api.Fix) bool {
	if x.Kind == api.FixMark {
		return isCovered(x, later)
	}
	return slices.ContainsFunc(later, func(y api.Fix) bool {
		return y.Kind != api.FixMark && replaced(y) == replaced(x)
	})
}

func isCovered(x api.Fix, later []api.Fix) bool {
	for _, y := range later {
		if y.Kind == api.FixSet && basic.Inside(y.Sample.At, x.Time) {
			return false
		}
		if y.Kind == api.FixMark && y.Time.From <= x.Time.From && x.Time.To <= y.Time.To && y.Quality >= x.Quality {
			return true
		}
	}
	return false
}

// replaced returns the moment whose sample a set or a delete replaces.
func replaced(x api.Fix) int {
	if x.Kind == api.FixSet {
		return x.Sample.At
	}
	return x.At
}

// Changes returns the moments at which a corrected series differs as of two moments.
func Changes(l []api.Sample, f []api.Fix, from, to int) ([]int, api.Errno) {
	if e := CheckSeries(l); e != api.OK {
		return nil, e
	}
	if e := checkUpTo(f, from); e != api.OK {
		return nil, e
	}
	if e := checkMoment(to); e != api.OK {
		return nil, e
	}
	before, e := applied(l, upTo(f, from))
	if e != api.OK {
		return nil, e
	}
	after, e := applied(l, upTo(f, to))
	if e != api.OK {
		return nil, e
	}
	return basic.Differing(before, after), api.OK
}
