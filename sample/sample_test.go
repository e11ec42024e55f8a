package sample_test

import (
	"fmt"
	"math"
	"math/rand"
	"testing"

	"plantlog/api"
	"plantlog/sample"
)

// same compares as printed, so that an empty and a nil list are the same.
func same(t *testing.T, what string, got, want any) {
	t.Helper()
	if g, w := fmt.Sprintf("%+v", got), fmt.Sprintf("%+v", want); g != w {
		t.Errorf("%s: got %.300s, want %.300s", what, g, w)
	}
}

func good(at, value int) api.Sample { return api.Sample{At: at, Value: value, Quality: api.Good} }

func uncertain(at, value int) api.Sample {
	return api.Sample{At: at, Value: value, Quality: api.Uncertain}
}

func bad(at int) api.Sample { return api.Sample{At: at, Quality: api.Bad} }

type series = []api.Sample

// long returns a valid series of n samples, from a moment on, every step milliseconds.
func long(n, from, step int) series {
	l := make(series, n)
	for i := range l {
		l[i] = good(from+i*step, i)
	}
	return l
}

// someSeries returns a valid series with moments below end.
func someSeries(r *rand.Rand, end int) series {
	var l series
	for at := range end {
		switch r.Intn(5) {
		case 0:
			l = append(l, good(at, r.Intn(7)-3))
		case 1:
			l = append(l, uncertain(at, r.Intn(7)-3))
		case 2:
			l = append(l, bad(at))
		}
	}
	return l
}

func TestP11CheckSample(t *testing.T) {
	for _, c := range []struct {
		x    api.Sample
		want api.Errno
	}{
		{good(0, 0), api.OK},
		{good(api.End-1, api.MaxValue), api.OK},
		{uncertain(5, -api.MaxValue), api.OK},
		{bad(5), api.OK},
		{good(-1, 0), api.ErrArg},
		{good(api.End, 0), api.ErrArg},
		{api.Sample{At: 5, Quality: 3}, api.ErrKind},
		{api.Sample{At: 5, Quality: -1}, api.ErrKind},
		{good(5, api.MaxValue+1), api.ErrArg},
		{good(5, -api.MaxValue-1), api.ErrArg},
		{api.Sample{At: 5, Value: 1, Quality: api.Bad}, api.ErrForm},
		{api.Sample{At: 5, Value: -1, Quality: api.Bad}, api.ErrForm},
	} {
		same(t, fmt.Sprint("CheckSample of ", c.x), sample.CheckSample(c.x), c.want)
	}
}

func TestP11CheckSeries(t *testing.T) {
	for name, c := range map[string]struct {
		l    series
		want api.Errno
	}{
		"none":            {nil, api.OK},
		"one":             {series{good(5, 5)}, api.OK},
		"rising":          {series{good(5, 5), bad(6), uncertain(100, 5)}, api.OK},
		"most":            {long(api.MaxSamples, 0, 1), api.OK},
		"too many":        {long(api.MaxSamples+1, 0, 1), api.ErrLarge},
		"a wrong sample":  {series{good(5, 5), {At: 6, Value: 1, Quality: api.Bad}}, api.ErrForm},
		"the same moment": {series{good(5, 5), good(5, 5)}, api.ErrOrder},
		"falling":         {series{good(5, 5), good(6, 5), good(4, 5)}, api.ErrOrder},
	} {
		same(t, name, sample.CheckSeries(c.l), c.want)
	}
}

func TestP11Merge(t *testing.T) {
	for name, c := range map[string]struct{ a, b, want series }{
		"none":                      {nil, nil, nil},
		"one empty":                 {series{good(1, 1)}, nil, series{good(1, 1)}},
		"apart":                     {series{good(1, 1), good(4, 4)}, series{good(2, 2), good(3, 3), good(5, 5)}, series{good(1, 1), good(2, 2), good(3, 3), good(4, 4), good(5, 5)}},
		"good before uncertain":     {series{good(1, 1)}, series{uncertain(1, 9)}, series{good(1, 1)}},
		"good before bad":           {series{good(1, -1)}, series{bad(1)}, series{good(1, -1)}},
		"uncertain before bad":      {series{uncertain(1, -1)}, series{bad(1)}, series{uncertain(1, -1)}},
		"the greater of good":       {series{good(1, -2)}, series{good(1, -1)}, series{good(1, -1)}},
		"the greater of uncertain":  {series{uncertain(1, 2)}, series{uncertain(1, 3)}, series{uncertain(1, 3)}},
		"equal ones":                {series{good(1, 2), bad(2)}, series{good(1, 2), bad(2)}, series{good(1, 2), bad(2)}},
		"the better one, both ways": {series{good(1, 2), bad(2)}, series{bad(1), good(2, 3)}, series{good(1, 2), good(2, 3)}},
	} {
		got, e := sample.Merge(c.a, c.b)
		same(t, name, []any{got, e}, []any{c.want, api.OK})
		got, e = sample.Merge(c.b, c.a)
		same(t, name+", turned round", []any{got, e}, []any{c.want, api.OK})
	}
}

func TestP11MergeLimit(t *testing.T) {
	half := api.MaxSamples / 2
	got, e := sample.Merge(long(half, 0, 2), long(half, 1, 2))
	same(t, "as many as there may be", []any{len(got), e}, []any{api.MaxSamples, api.OK})
	got, e = sample.Merge(long(half, 0, 2), long(half+1, 1, 2))
	same(t, "one more", []any{got, e}, []any{series{}, api.ErrLarge})
	most := long(api.MaxSamples, 0, 1)
	got, e = sample.Merge(most, most)
	same(t, "the same ones twice", []any{got, e}, []any{most, api.OK})
}

func TestP11MergeDoesNotDependOnTheOrder(t *testing.T) {
	r := rand.New(rand.NewSource(1))
	merge := func(a, b series) series {
		l, e := sample.Merge(a, b)
		same(t, "merge", e, api.OK)
		return l
	}
	for range 200 {
		a, b, c := someSeries(r, 12), someSeries(r, 12), someSeries(r, 12)
		same(t, "a and b", merge(a, b), merge(b, a))
		same(t, "a, b and c", merge(merge(a, b), c), merge(a, merge(b, c)))
		same(t, "a twice", merge(merge(a, b), a), merge(a, b))
	}
}

func TestP11Slice(t *testing.T) {
	l := series{good(0, 1), bad(10), uncertain(20, 3), good(api.End-1, 4)}
	for w, want := range map[api.Window]series{
		{From: 0, To: api.End}:       l,
		{From: 0, To: api.End - 1}:   l[:3],
		{From: 10, To: 20}:           l[1:2],
		{From: 10, To: 21}:           l[1:3],
		{From: 11, To: 20}:           nil,
		{From: 10, To: 10}:           nil,
		{From: api.End, To: api.End}: nil,
		{}:                           nil,
	} {
		got, e := sample.Slice(l, w)
		same(t, fmt.Sprint("Slice of ", w), []any{got, e}, []any{want, api.OK})
	}
	for _, w := range wrongWindows {
		got, e := sample.Slice(l, w)
		same(t, fmt.Sprint("Slice of ", w), []any{got, e}, []any{series{}, api.ErrArg})
	}
}

var wrongWindows = []api.Window{
	{From: -1, To: 5},
	{From: 6, To: 5},
	{From: 0, To: api.End + 1},
	{From: math.MinInt, To: math.MaxInt},
	{From: math.MaxInt, To: math.MinInt},
}

// TestP11SeriesFirst: all functions with samples return CheckSeries' error before their own ones.
func TestP11SeriesFirst(t *testing.T) {
	fine := series{good(1, 1)}
	wrongWindow, wrongRate := api.Window{From: 2, To: 1}, api.Fraction{}
	for name, wrong := range map[api.Errno]series{
		api.ErrLarge: long(api.MaxSamples+1, 0, 1),
		api.ErrKind:  {{At: 1, Quality: 7}},
		api.ErrForm:  {{At: 1, Value: 1, Quality: api.Bad}},
		api.ErrOrder: {good(1, 1), good(1, 1)},
	} {
		for i, e := range []api.Errno{
			second(sample.Merge(wrong, fine)),
			second(sample.Merge(fine, wrong)),
			second(sample.Merge(wrong, series{{At: -1}})),
			second(sample.Slice(wrong, wrongWindow)),
			second(sample.Gaps(wrong, wrongWindow, 0)),
			second(sample.Stuck(wrong, 0)),
			second(sample.Jumps(wrong, wrongRate)),
			second(sample.Scale(wrong, wrongRate, 0)),
			second(sample.Limit(wrong, 1, 0)),
			second(sample.Fixed(wrong, []api.Fix{{}}, -1)),
			second(sample.Changes(wrong, []api.Fix{{}}, -1, -1)),
			second(sample.Text(wrong)),
		} {
			same(t, fmt.Sprintf("call %d", i), e, name)
		}
	}
}

func second[T any](_ T, e api.Errno) api.Errno { return e }
