package sample

import (
	"cmp"
	"strings"

	"plantlog/api"
	"plantlog/basic"
)

// CheckFixes says what is wrong with fixes.
func CheckFixes(f []api.Fix) api.Errno {
	if len(f) > api.MaxFixes {
		return api.ErrLarge
	}
	for i, x := range f {
		if e := checkFix(x); e != api.OK {
			return e
		}
		if i > 0 && inOrder(f[i-1], x) >= 0 {
			return api.ErrOrder
		}
	}
	if len(byNumber(f)) < len(f) {
		return api.ErrTwice
	}
	return api.OK
}

func checkFix(x api.Fix) api.Errno {
	switch {
	case !basic.Key(x.By):
		return api.ErrName
	case !basic.Within(x.No, 1, api.MaxFactor) || !basic.Moment(x.Made):
		return api.ErrArg
	}
	used := api.Fix{By: x.By, No: x.No, Made: x.Made, Kind: x.Kind}
	e := api.ErrKind
	switch x.Kind {
	case api.FixSet:
		e = CheckSample(x.Sample)
		used.Sample = x.Sample
	case api.FixDelete:
		e = checkMoment(x.At)
		used.At = x.At
	case api.FixMark:
		e = checkMark(x)
		used.Time, used.Quality = x.Time, x.Quality
	}
	if e == api.OK && x != used {
		return api.ErrForm
	}
	return e
}

func checkMoment(at int) api.Errno {
	if !basic.Moment(at) {
		return api.ErrArg
	}
	return api.OK
}

func checkMark(x api.Fix) api.Errno {
	if !basic.Lasting(x.Time) {
		return api.ErrArg
	}
	if !basic.Quality(x.Quality) {
		return api.ErrKind
	}
	return api.OK
}

// inOrder compares two fixes by the order in which they are applied.
func inOrder(x, y api.Fix) int {
	return cmp.Or(cmp.Compare(x.Made, y.Made), strings.Compare(x.By, y.By), cmp.Compare(x.No, y.No))
}

// number is what tells a fix from all others.
type number struct {
	by string
	no int
}

func numberOf(x api.Fix) number { return number{x.By, x.No} }

func byNumber(f []api.Fix) map[number]api.Fix {
	fixes := map[number]api.Fix{}
	for _, x := range f {
		fixes[numberOf(x)] = x
	}
	return fixes
}

// MergeFixes returns the fixes of both lists.
func MergeFixes(a, b []api.Fix) ([]api.Fix, api.Errno) {
	if e := checkEach(CheckFixes, a, b); e != api.OK {
		return nil, e
	}
	if inConflict(a, b) {
		return nil, api.ErrConflict
	}
	var merged []api.Fix
	add := func(x api.Fix) { merged = append(merged, x) }
	// Without a conflict, fixes with the same place in the order are equal.
	basic.Align(a, b, inOrder, add, func(x, _ api.Fix) { add(x) })
	if len(merged) > api.MaxFixes {
		return nil, api.ErrLarge
	}
	return merged, api.OK
}

func inConflict(a, b []api.Fix) bool {
	known := byNumber(a)
	for _, x := range b {
		if y, ok := known[numberOf(x)]; ok && x != y {
			return true
		}
	}
	return false
}
