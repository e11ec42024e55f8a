package compress

import (
	"plantlog/api"
	"plantlog/basic"
	"plantlog/sample"
)

// CheckException says what is wrong with an exception.
func CheckException(x api.Exception) api.Errno {
	return checkRange(x.Deadband, x.MaxGap)
}

// Report returns the samples that are reported.
func Report(x api.Exception, l []api.Sample) ([]int, api.Errno) {
	if e := CheckException(x); e != api.OK {
		return nil, e
	}
	if e := sample.CheckSeries(l); e != api.OK {
		return nil, e
	}
	var reported []int
	last := -1
	report := func(i int) {
		if i > last {
			reported = append(reported, i)
			last = i
		}
	}
	for i, s := range l {
		if i == 0 || isException(x, l[last], s) {
			report(i - 1)
			report(i)
		}
	}
	report(len(l) - 1)
	return reported, api.OK
}

// isException reports whether s has to be reported after the last reported sample.
func isException(x api.Exception, last, s api.Sample) bool {
	return s.Quality != last.Quality || basic.Distance(s.Value, last.Value) > x.Deadband || s.At-last.At >= x.MaxGap
}

// Steps returns the samples that a stepped tag needs.
func Steps(l []api.Sample) ([]int, api.Errno) {
	if e := sample.CheckSeries(l); e != api.OK {
		return nil, e
	}
	var steps []int
	for i, s := range l {
		if i == 0 || i == len(l)-1 || s.Value != l[i-1].Value || s.Quality != l[i-1].Quality {
			steps = append(steps, i)
		}
	}
	return steps, api.OK
}
