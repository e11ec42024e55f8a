package retain

import (
	"plantlog/api"
	"plantlog/basic"
)

// Sum returns the sum and the count of the good values in a window.
func Sum(b []api.Bin, step int, w api.Window) (int, int, api.Errno) {
	if e := CheckBins(b, step); e != api.OK {
		return 0, 0, e
	}
	switch {
	case !basic.Window(w):
		return 0, 0, api.ErrArg
	case w.From%step != 0, w.To%step != 0:
		return 0, 0, api.ErrRule
	}
	sum, count := 0, 0
	for _, x := range b {
		if basic.Inside(x.From, w) {
			sum += x.Sum
			count += x.Count
		}
	}
	return sum, count, api.OK
}

// Mean returns the mean of the good values in a window.
func Mean(b []api.Bin, step int, w api.Window) (api.Fraction, bool, api.Errno) {
	sum, count, e := Sum(b, step, w)
	if e != api.OK || count == 0 {
		return api.Fraction{}, false, e
	}
	return basic.Reduced(sum, count), true, api.OK
}
