package compress_test

import (
	"fmt"
	"math"
	"math/big"
	"math/rand"
	"slices"
	"testing"

	"plantlog/api"
	"plantlog/compress"
)

// same compares as printed, so that an empty and a nil list are the same.
func same(t *testing.T, what string, got, want any) {
	t.Helper()
	if g, w := fmt.Sprintf("%+v", got), fmt.Sprintf("%+v", want); g != w {
		t.Errorf("%s: got %.300s, want %.300s", what, g, w)
	}
}

func good(at, value int) api.Sample { return api.Sample{At: at, Value: value, Quality: api.Good} }

func uncertain(at, value int) api.Sample {
	return api.Sample{At: at, Value: value, Quality: api.Uncertain}
}

func bad(at int) api.Sample { return api.Sample{At: at, Quality: api.Bad} }

type series = []api.Sample

// example is the series of the example of P2.3.
func example() series { return series{good(0, 0), good(1, 1), good(2, 2), good(3, 5)} }

// long returns a valid series of n samples.
func long(n int) series {
	l := make(series, n)
	for i := range l {
		l[i] = good(i, i%api.MaxValue)
	}
	return l
}

// someSeries returns a valid series with moments below end.
func someSeries(r *rand.Rand, end int) series {
	var l series
	quality := api.Good
	for at := range end {
		if r.Intn(4) == 0 {
			quality = r.Intn(3)
		}
		switch {
		case r.Intn(5) == 0:
		case quality == api.Bad:
			l = append(l, bad(at))
		default:
			l = append(l, api.Sample{At: at, Value: r.Intn(7) - 3, Quality: quality})
		}
	}
	return l
}

// wideSeries returns n samples over all moments, about a straight line: many of them just within a deviation of it, or just outside.
func wideSeries(r *rand.Rand, n, deviation int) series {
	at := make(map[int]bool)
	for len(at) < n {
		at[r.Intn(api.End)] = true
	}
	var l series
	for a := range at {
		l = append(l, good(a, 0))
	}
	slices.SortFunc(l, func(x, y api.Sample) int { return x.At - y.At })
	from, to := r.Intn(api.MaxValue)-api.MaxValue/2, r.Intn(api.MaxValue)-api.MaxValue/2
	for i := range l {
		on := from + (to-from)/(n-1)*i
		l[i].At = l[0].At + (l[n-1].At-l[0].At)/(n-1)*i
		l[i].Value = min(max(on+r.Intn(3)*deviation-deviation+r.Intn(3)-1, -api.MaxValue), api.MaxValue)
	}
	return l
}

func fraction(num, den int) *big.Rat { return big.NewRat(int64(num), int64(den)) }

// onLine is the value at a moment on the line from p to n, as the document says it, with fractions that cannot overflow.
func onLine(p, n api.Sample, at int) *big.Rat {
	x := fraction(at-p.At, n.At-p.At)
	x.Mul(x, fraction(n.Value-p.Value, 1))
	return x.Add(x, fraction(p.Value, 1))
}

// off is by how much a value differs from a fraction.
func off(value int, f *big.Rat) *big.Rat {
	d := new(big.Rat).Sub(fraction(value, 1), f)
	return d.Abs(d)
}

// acceptable is the condition of P2.2 for the sample with index s.
func acceptable(d api.Door, l series, pivot, s int) bool {
	for i := pivot + 1; i < s; i++ {
		if off(l[i].Value, onLine(l[pivot], l[s], l[i].At)).Cmp(fraction(d.Deviation, 1)) > 0 {
			return false
		}
	}
	return l[s].At-l[pivot].At <= d.MaxGap
}

// archived is P2.2 step by step, with all samples at hand.
func archived(d api.Door, l series) []int {
	if len(l) == 0 {
		return nil
	}
	kept := []int{0}
	pivot, held := 0, 0
	archive := func(i int) {
		if i != pivot {
			kept, pivot = append(kept, i), i
		}
	}
	for s := 1; s < len(l); s++ {
		switch {
		case l[s].Quality != l[pivot].Quality:
			archive(held)
			archive(s)
		case l[s].Quality == api.Bad:
			if l[s].At-l[pivot].At > d.MaxGap {
				archive(held)
			}
		case !acceptable(d, l, pivot, s):
			archive(held)
		}
		held = s
	}
	archive(held)
	return kept
}

// ranges are the values of a number that is to be from low to high.
func ranges(low, high int) map[int]api.Errno {
	return map[int]api.Errno{
		low: api.OK, high: api.OK, low - 1: api.ErrArg, high + 1: api.ErrArg,
		math.MinInt: api.ErrArg, math.MaxInt: api.ErrArg,
	}
}

func TestP21CheckDoor(t *testing.T) {
	for n, want := range ranges(0, 2*api.MaxValue) {
		d := api.Door{Deviation: n, MaxGap: 1}
		same(t, fmt.Sprint("deviation ", n), compress.CheckDoor(d), want)
	}
	for n, want := range ranges(1, api.MaxGapLong) {
		d := api.Door{Deviation: 5, MaxGap: n}
		same(t, fmt.Sprint("gap ", n), compress.CheckDoor(d), want)
	}
}

func TestP21DoorAndSeriesErrors(t *testing.T) {
	call := func(d api.Door, l series) map[string]result {
		return map[string]result{
			"Compress": of(compress.Compress(d, l)),
			"Fits":     of(compress.Fits(d, l, nil)),
			"Minimum":  of(compress.Minimum(d, l)),
		}
	}
	door := api.Door{Deviation: 1, MaxGap: 9}
	for _, c := range []struct {
		d    api.Door
		l    series
		want api.Errno
	}{
		{api.Door{Deviation: -1, MaxGap: 9}, nil, api.ErrArg},
		{api.Door{Deviation: 1, MaxGap: 0}, nil, api.ErrArg},
		{api.Door{Deviation: 1, MaxGap: 0}, series{{Quality: 7}}, api.ErrArg},
		{door, series{{Quality: 7}}, api.ErrKind},
		{door, series{good(5, 0), good(5, 0)}, api.ErrOrder},
		{door, series{{At: 5, Value: 1, Quality: api.Bad}}, api.ErrForm},
		{door, make(series, api.MaxSamples+1), api.ErrLarge},
	} {
		for name, r := range call(c.d, c.l) {
			same(t, fmt.Sprint(name, c.d, len(c.l)), r.e, c.want)
		}
	}
}

func TestP22Compress(t *testing.T) {
	door := func(deviation, gap int) api.Door { return api.Door{Deviation: deviation, MaxGap: gap} }
	for name, c := range map[string]struct {
		d    api.Door
		l    series
		want []int
	}{
		"example":                           {door(1, 100), example(), []int{0, 2, 3}},
		"no samples":                        {door(1, 100), nil, nil},
		"one sample":                        {door(1, 100), series{good(5, 5)}, []int{0}},
		"one bad sample":                    {door(1, 100), series{bad(5)}, []int{0}},
		"two samples":                       {door(0, 1), series{good(5, 5), good(9, 0)}, []int{0, 1}},
		"a straight line":                   {door(0, 100), series{good(0, 0), good(2, 1), good(6, 3), good(8, 4)}, []int{0, 3}},
		"off by the deviation":              {door(2, 100), series{good(0, 0), good(1, 2), good(2, 0)}, []int{0, 2}},
		"off by more":                       {door(2, 100), series{good(0, 0), good(1, 3), good(2, 0)}, []int{0, 1, 2}},
		"off by a little more":              {door(1, 100), series{good(0, 0), good(1, 0), good(3, 4), good(4, 5)}, []int{0, 1, 3}},
		"below the line":                    {door(2, 100), series{good(0, 0), good(1, -3), good(2, 0)}, []int{0, 1, 2}},
		"all samples between count":         {door(1, 100), series{good(0, 0), good(1, 1), good(2, 0), good(3, -1), good(4, -2)}, []int{0, 2, 4}},
		"as long as the gap":                {door(9, 2), series{good(0, 0), good(1, 0), good(2, 0)}, []int{0, 2}},
		"longer than the gap":               {door(9, 2), series{good(0, 0), good(1, 0), good(3, 0)}, []int{0, 1, 2}},
		"the gap alone":                     {door(9, 2), example(), []int{0, 2, 3}},
		"far from the pivot, no held":       {door(9, 2), series{good(0, 0), good(10, 0), good(11, 0), good(12, 0), good(13, 0)}, []int{0, 1, 3, 4}},
		"each one far":                      {door(9, 2), series{good(0, 0), good(10, 0), good(20, 0), good(30, 0)}, []int{0, 1, 2, 3}},
		"another quality":                   {door(9, 100), series{good(0, 0), good(1, 0), good(2, 0), uncertain(3, 0), uncertain(4, 0), uncertain(5, 0)}, []int{0, 2, 3, 5}},
		"another quality after the pivot":   {door(9, 100), series{good(0, 0), uncertain(3, 0), good(4, 0), good(5, 0), good(6, 0)}, []int{0, 1, 2, 4}},
		"bad in between":                    {door(1, 100), series{good(0, 1), good(1, 1), bad(2), bad(3), good(4, 1)}, []int{0, 1, 2, 3, 4}},
		"bad ones":                          {door(0, 100), series{bad(0), bad(1), bad(2), bad(3)}, []int{0, 3}},
		"bad ones as long as the gap":       {door(0, 3), series{bad(0), bad(1), bad(2), bad(3)}, []int{0, 3}},
		"bad ones longer than the gap":      {door(0, 2), series{bad(0), bad(1), bad(2), bad(3), bad(4), bad(5)}, []int{0, 2, 4, 5}},
		"bad ones far from each other":      {door(0, 2), series{bad(0), bad(10), bad(11), bad(20)}, []int{0, 1, 2, 3}},
		"the greatest differences":          {door(2*api.MaxValue, api.MaxGapLong), series{good(0, -api.MaxValue), good(1, api.MaxValue), good(2, -api.MaxValue), good(api.MaxGapLong, api.MaxValue)}, []int{0, 3}},
		"a moment longer than the long gap": {door(2*api.MaxValue, api.MaxGapLong), series{good(0, 0), good(1, 0), good(api.MaxGapLong+1, 0)}, []int{0, 1, 2}},
	} {
		got, e := compress.Compress(c.d, c.l)
		same(t, name, []any{got, e}, []any{c.want, api.OK})
		same(t, name+", step by step", archived(c.d, c.l), c.want)
	}
}

// TestP22CompressStepByStep compares with the document's steps, and finds that what they keep fits.
func TestP22CompressStepByStep(t *testing.T) {
	r := rand.New(rand.NewSource(1))
	dropped := 0
	check := func(d api.Door, l series) {
		t.Helper()
		got, e := compress.Compress(d, l)
		same(t, fmt.Sprint("Compress of ", d, l), []any{got, e}, []any{archived(d, l), api.OK})
		ok, e := compress.Fits(d, l, got)
		same(t, fmt.Sprint("Fits of ", d, l, got), []any{ok, e}, []any{true, api.OK})
		dropped += len(l) - len(got)
	}
	for range 2000 {
		check(api.Door{Deviation: r.Intn(4), MaxGap: 1 + r.Intn(12)}, someSeries(r, 20))
	}
	for range 500 {
		d := api.Door{Deviation: 1 + r.Intn(api.MaxValue/4), MaxGap: api.MaxGapLong - r.Intn(3)}
		check(d, wideSeries(r, 3+r.Intn(30), d.Deviation))
	}
	if dropped == 0 {
		t.Error("no sample is dropped")
	}
}

func TestP22CompressLongSeries(t *testing.T) {
	l := long(api.MaxSamples)
	for i := range l {
		l[i].Value = i % 2
	}
	got, e := compress.Compress(api.Door{Deviation: 1, MaxGap: api.MaxGapLong}, l)
	same(t, "a long series", []any{got, e}, []any{[]int{0, api.MaxSamples - 1}, api.OK})
}
