package sample

import (
	"plantlog/api"
	"plantlog/basic"
)

// Gaps returns the intervals without a sample that is not Bad.
func Gaps(l []api.Sample, w api.Window, most int) ([]api.Window, api.Errno) {
	if e := checkWithin(l, w); e != api.OK {
		return nil, e
	}
	if !basic.Within(most, 1, api.End) {
		return nil, api.ErrArg
	}
	var gaps []api.Window
	from := w.From
	end := func(to int) {
		if to-from > most {
			gaps = append(gaps, api.Window{From: from, To: to})
		}
	}
	for _, x := range l {
		if x.Quality != api.Bad && basic.Inside(x.At, w) {
			end(x.At)
			from = x.At + 1
		}
	}
	end(w.To)
	return gaps, api.OK
}

// Stuck returns the runs of samples with one value.
func Stuck(l []api.Sample, least int) ([]api.Window, api.Errno) {
	if e := CheckSeries(l); e != api.OK {
		return nil, e
	}
	if !basic.Within(least, 2, api.MaxSamples) {
		return nil, api.ErrArg
	}
	var runs []api.Window
	for i := 0; i < len(l); {
		end := runEnd(l, i)
		if end-i >= least {
			runs = append(runs, api.Window{From: l[i].At, To: l[end-1].At + 1})
		}
		i = end
	}
	return runs, api.OK
}

// runEnd returns the index after the run of equal values that begins at an index; a Bad sample stands alone.
func runEnd(l []api.Sample, first int) int {
	end := first + 1
	if l[first].Quality == api.Bad {
		return end
	}
	for end < len(l) && l[end].Quality != api.Bad && l[end].Value == l[first].Value {
		end++
	}
	return end
}

// Jumps returns the samples that change faster than a rate.
func Jumps(l []api.Sample, rate api.Fraction) ([]int, api.Errno) {
	if e := CheckSeries(l); e != api.OK {
		return nil, e
	}
	if !basic.Lowest(rate) || rate.Num < 0 {
		return nil, api.ErrForm
	}
	if rate.Num > api.MaxFactor || rate.Den > api.MaxFactor {
		return nil, api.ErrArg
	}
	var jumps []int
	last := -1
	for i, x := range l {
		if x.Quality == api.Bad {
			continue
		}
		if last >= 0 && faster(l[last], x, rate) {
			jumps = append(jumps, i)
		}
		last = i
	}
	return jumps, api.OK
}

// faster compares products instead of quotients to be exact; by the limits, both are far below the greatest int.
func faster(x, y api.Sample, rate api.Fraction) bool {
	return basic.Distance(x.Value, y.Value)*rate.Den > rate.Num*(y.At-x.At)
}
