package batch

import (
	"plantlog/api"
	"plantlog/basic"
	"plantlog/query"
)

// Profile returns the values of a frame at equal distances.
func Profile(l []api.Sample, f api.Window, parts int) ([]int, bool, api.Errno) {
	if e := checkFramed(l, f); e != api.OK {
		return nil, false, e
	}
	if !basic.Within(parts, 1, api.MaxParts) {
		return nil, false, api.ErrArg
	}
	values, ok := profile(l, f, parts)
	return values, ok, api.OK
}

func profile(l []api.Sample, f api.Window, parts int) ([]int, bool) {
	values := make([]int, parts+1)
	for k := range values {
		at := f.From + k*basic.Long(f)/parts
		n, ok := valueAt(l, min(at, api.End-1))
		if !ok {
			return nil, false
		}
		values[k] = n
	}
	return values, true
}

// valueAt returns the value at a moment in thousandths; false if it is missing or Bad.
func valueAt(l []api.Sample, at int) (int, bool) {
	// Only the samples on both sides matter, and query checks all that it is given.
	i := basic.Position(l, at)
	x, ok, _ := query.ValueAt(l[max(i-1, 0):min(i+1, len(l))], false, at)
	if !ok || x.Quality == api.Bad {
		return 0, false
	}
	return basic.Thousandths(x.Value), true
}

// checkProfile says what is wrong with a profile.
func checkProfile(values []int) api.Errno {
	switch {
	case len(values) < 2:
		return api.ErrForm
	case len(values) > api.MaxParts+1:
		return api.ErrLarge
	}
	for _, n := range values {
		if !basic.Within(n, -1000*api.MaxValue, 1000*api.MaxValue) {
			return api.ErrArg
		}
	}
	return api.OK
}

// Deviation returns by how much two profiles differ at most.
func Deviation(a, b []int) (int, int, api.Errno) {
	if e := checkProfile(a); e != api.OK {
		return 0, 0, e
	}
	if e := checkProfile(b); e != api.OK {
		return 0, 0, e
	}
	if len(a) != len(b) {
		return 0, 0, api.ErrForm
	}
	most, where := deviation(a, b)
	return most, where, api.OK
}

func deviation(a, b []int) (most, where int) {
	for i, n := range a {
		if d := basic.Distance(n, b[i]); d > most {
			most, where = d, i
		}
	}
	return most, where
}

// Closest returns the frame whose profile is closest to one.
func Closest(l []api.Sample, f []api.Window, golden []int) (int, bool, api.Errno) {
	if e := checkFramed(l, f...); e != api.OK {
		return 0, false, e
	}
	if e := checkProfile(golden); e != api.OK {
		return 0, false, e
	}
	closest, least, found := 0, 0, false
	for i, frame := range f {
		values, ok := profile(l, frame, len(golden)-1)
		if !ok {
			continue
		}
		if most, _ := deviation(values, golden); !found || most < least {
			closest, least, found = i, most, true
		}
	}
	return closest, found, api.OK
}
