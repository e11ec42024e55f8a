package query_test

import (
	"fmt"
	"math/big"
	"math/rand"
	"testing"

	"plantlog/api"
)

// same compares as printed, so that an empty and a nil list are the same.
func same(t *testing.T, what string, got, want any) {
	t.Helper()
	if g, w := fmt.Sprintf("%+v", got), fmt.Sprintf("%+v", want); g != w {
		t.Errorf("%s: got %.300s, want %.300s", what, g, w)
	}
}

type (
	series    = []api.Sample
	windows   = []api.Window
	fractions = []api.Fraction
)

func good(at, value int) api.Sample { return api.Sample{At: at, Value: value, Quality: api.Good} }

func uncertain(at, value int) api.Sample {
	return api.Sample{At: at, Value: value, Quality: api.Uncertain}
}

func bad(at int) api.Sample { return api.Sample{At: at, Quality: api.Bad} }

func window(from, to int) api.Window { return api.Window{From: from, To: to} }

func whole(n int) api.Fraction { return api.Fraction{Num: n, Den: 1} }

func fraction(num, den int) api.Fraction { return api.Fraction{Num: num, Den: den} }

// asFraction returns f in lowest terms, as package big keeps it.
func asFraction(f *big.Rat) api.Fraction {
	return api.Fraction{Num: int(f.Num().Int64()), Den: int(f.Denom().Int64())}
}

// example is the series of the chapter's example.
func example() series { return series{good(0, 0), good(10, 20)} }

// mixed has all qualities, and one value twice.
func mixed() series {
	return series{good(10, 4), uncertain(20, -2), bad(30), good(50, 8), good(60, 8), uncertain(65, 0), bad(90), uncertain(95, 8)}
}

// long returns a valid series of n samples, one each millisecond.
func long(n int) series {
	l := make(series, n)
	for i := range l {
		l[i] = good(i, i%1_000)
	}
	return l
}

// someSeries returns a valid series with moments below end and values from -3 to 3.
func someSeries(r *rand.Rand, end int) series {
	var l series
	most := 1 + r.Intn(5)
	for at := range end {
		if r.Intn(most) > 0 {
			continue
		}
		x := api.Sample{At: at, Quality: r.Intn(4) % 3}
		if x.Quality != api.Bad {
			x.Value = r.Intn(7) - 3
		}
		l = append(l, x)
	}
	return l
}

// wideSeries returns samples over all moments with values over their whole range, most of them at its ends.
func wideSeries(r *rand.Rand) series {
	var l series
	for at := r.Intn(api.End / 8); at < api.End; at += 1 + r.Intn(api.End/4) {
		x := api.Sample{At: at, Quality: r.Intn(8) % 3}
		if x.Quality != api.Bad {
			x.Value = min(max(r.Intn(6*api.MaxValue)-3*api.MaxValue, -api.MaxValue), api.MaxValue)
		}
		l = append(l, x)
	}
	return l
}

func someWindow(r *rand.Rand, end int) api.Window {
	from := r.Intn(end)
	return window(from, from+r.Intn(end-from))
}

// eachMoment calls see for each moment of a window at which the tag has a value, with the sample that it comes from.
func eachMoment(l series, w api.Window, see func(at int, x api.Sample)) {
	for at := w.From; at < w.To; at++ {
		last := -1
		for i, x := range l {
			if x.At <= at {
				last = i
			}
		}
		if last >= 0 {
			see(at, l[last])
		}
	}
}

// wrongWindows are all kinds of windows that are none.
func wrongWindows() windows {
	const least, greatest = -1 << 63, 1<<63 - 1
	return windows{window(-1, 5), window(6, 5), window(0, api.End+1), window(api.End+1, api.End+1), window(least, 5), window(0, least), window(0, greatest), window(least, greatest), window(greatest, greatest), window(least, least)}
}
