package compress

import (
	"math/bits"

	"plantlog/api"
	"plantlog/basic"
	"plantlog/sample"
)

// checkKept says what is wrong with a series, then with indices of its samples.
func checkKept(l []api.Sample, kept []int) api.Errno {
	if e := sample.CheckSeries(l); e != api.OK {
		return e
	}
	if len(kept) > len(l) {
		return api.ErrLarge
	}
	for i, k := range kept {
		if !basic.Within(k, 0, len(l)-1) {
			return api.ErrArg
		}
		if i > 0 && k <= kept[i-1] {
			return api.ErrOrder
		}
	}
	return api.OK
}

// Keep returns the samples with some indices.
func Keep(l []api.Sample, kept []int) ([]api.Sample, api.Errno) {
	if e := checkKept(l, kept); e != api.OK {
		return nil, e
	}
	return chosen(l, kept), api.OK
}

func chosen(l []api.Sample, kept []int) []api.Sample {
	samples := make([]api.Sample, len(kept))
	for i, k := range kept {
		samples[i] = l[k]
	}
	return samples
}

// Ratio returns how many samples there are for each kept one.
func Ratio(l []api.Sample, kept []int) (api.Fraction, bool, api.Errno) {
	if e := checkKept(l, kept); e != api.OK || len(kept) == 0 {
		return api.Fraction{}, false, e
	}
	return basic.Reduced(len(l), len(kept)), true, api.OK
}

// Reconstruct returns the value at a moment, from archived samples.
func Reconstruct(l []api.Sample, at int) (api.Fraction, bool, api.Errno) {
	if e := sample.CheckSeries(l); e != api.OK {
		return api.Fraction{}, false, e
	}
	if !basic.Moment(at) {
		return api.Fraction{}, false, api.ErrArg
	}
	value, ok := reconstructed(l, at)
	return value, ok, api.OK
}

func reconstructed(l []api.Sample, at int) (api.Fraction, bool) {
	i := basic.Position(l, at)
	if i == len(l) || l[i].Quality == api.Bad {
		return api.Fraction{}, false
	}
	if l[i].At == at {
		return api.Fraction{Num: l[i].Value, Den: 1}, true
	}
	if i == 0 || l[i-1].Quality == api.Bad {
		return api.Fraction{}, false
	}
	return basic.OnLine(l[i-1], l[i], at), true
}

// Error returns by how much a sample differs most from the reconstruction.
func Error(l []api.Sample, kept []int) (api.Fraction, int, api.Errno) {
	if e := checkKept(l, kept); e != api.OK {
		return api.Fraction{}, 0, e
	}
	var most api.Fraction
	index := -1
	archived := chosen(l, kept)
	for i, x := range l {
		value, ok := reconstructed(archived, x.At)
		if !ok || x.Quality == api.Bad {
			continue
		}
		off := difference(x.Value, value)
		if index < 0 || less(most, off) {
			most, index = off, i
		}
	}
	if index < 0 {
		return api.Fraction{}, 0, api.ErrNone
	}
	return most, index, api.OK
}

// difference returns by how much an integer and a fraction differ; the denominator that is in lowest terms with one numerator is so with the other.
func difference(n int, f api.Fraction) api.Fraction {
	return api.Fraction{Num: basic.Distance(n*f.Den, f.Num), Den: f.Den}
}

// less compares fractions that are not below 0. Their products need up to 98 bits: a numerator is at most 2 * MaxValue * End, a denominator less than End.
func less(a, b api.Fraction) bool {
	high, low := bits.Mul64(uint64(a.Num), uint64(b.Den))
	highB, lowB := bits.Mul64(uint64(b.Num), uint64(a.Den))
	return high < highB || high == highB && low < lowB
}
