package sample

import (
	"slices"

	"plantlog/api"
	"plantlog/basic"
)

// Scale multiplies each value and adds an offset.
func Scale(l []api.Sample, factor api.Fraction, offset int) ([]api.Sample, api.Errno) {
	if e := CheckSeries(l); e != api.OK {
		return nil, e
	}
	if !basic.Lowest(factor) {
		return nil, api.ErrForm
	}
	if !basic.Within(factor.Num, -api.MaxFactor, api.MaxFactor) || factor.Den > api.MaxFactor || !basic.Value(offset) {
		return nil, api.ErrArg
	}
	return eachValue(l, func(x api.Sample) api.Sample {
		x.Value = rounded(x.Value*factor.Num+offset*factor.Den, factor.Den)
		if !basic.Value(x.Value) {
			return api.Sample{At: x.At, Quality: api.Bad}
		}
		return x
	}), api.OK
}

// eachValue returns the series with each sample changed that is not Bad.
func eachValue(l []api.Sample, change func(x api.Sample) api.Sample) []api.Sample {
	changed := slices.Clone(l)
	for i, x := range changed {
		if x.Quality != api.Bad {
			changed[i] = change(x)
		}
	}
	return changed
}

// rounded returns the integer nearest to a quotient, of two equally near ones that which is farther from 0.
func rounded(number, divisor int) int {
	if number < 0 {
		return -rounded(-number, divisor)
	}
	return (2*number + divisor) / (2 * divisor)
}

// Limit bounds each value.
func Limit(l []api.Sample, low, high int) ([]api.Sample, api.Errno) {
	if e := CheckSeries(l); e != api.OK {
		return nil, e
	}
	if low < -api.MaxValue || low > high || high > api.MaxValue {
		return nil, api.ErrArg
	}
	return eachValue(l, func(x api.Sample) api.Sample {
		value := min(max(x.Value, low), high)
		if value != x.Value {
			x.Value, x.Quality = value, api.Uncertain
		}
		return x
	}), api.OK
}
