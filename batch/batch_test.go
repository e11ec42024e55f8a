package batch_test

import (
	"fmt"
	"math"
	"math/rand"
	"testing"

	"plantlog/api"
	"plantlog/batch"
)

// same compares as printed, so that an empty and a nil list are the same.
func same(t *testing.T, what string, got, want any) {
	t.Helper()
	if g, w := fmt.Sprintf("%+v", got), fmt.Sprintf("%+v", want); g != w {
		t.Errorf("%s: got %.400s, want %.400s", what, g, w)
	}
}

type (
	samples   = []api.Sample
	frames    = []api.Window
	phases    = []api.Phase
	recipe    = []api.Stage
	transfers = []api.Transfer
)

func good(at, value int) api.Sample { return api.Sample{At: at, Value: value, Quality: api.Good} }

func uncertain(at, value int) api.Sample {
	return api.Sample{At: at, Value: value, Quality: api.Uncertain}
}

func bad(at int) api.Sample { return api.Sample{At: at, Quality: api.Bad} }

func frame(from, to int) api.Window { return api.Window{From: from, To: to} }

// framed returns frames, each from a number to the next one.
func framed(ends ...int) frames {
	var f frames
	for i := 0; i < len(ends); i += 2 {
		f = append(f, frame(ends[i], ends[i+1]))
	}
	return f
}

// series returns n good samples, one each millisecond.
func series(n int, value func(i int) int) samples {
	l := make(samples, n)
	for i := range l {
		l[i] = good(i, value(i))
	}
	return l
}

// someSamples returns samples at some of the moments before long, of some few values.
func someSamples(r *rand.Rand, long, values int) samples {
	var l samples
	for at := range long {
		if r.Intn(3) > 0 {
			continue
		}
		x := api.Sample{At: at, Value: r.Intn(values), Quality: r.Intn(3)}
		if x.Quality == api.Bad {
			x.Value = 0
		}
		l = append(l, x)
	}
	return l
}

// at returns the sample that a stepped tag has at a moment; a Bad one if there is none yet.
func at(l samples, moment int) api.Sample {
	x := bad(0)
	for _, y := range l {
		if y.At <= moment {
			x = y
		}
	}
	return x
}

// wrongSeries has a wrong series for each error.
var wrongSeries = map[string]struct {
	l    samples
	want api.Errno
}{
	"too many samples":   {make(samples, api.MaxSamples+1), api.ErrLarge},
	"no moment":          {samples{good(-1, 0)}, api.ErrArg},
	"no quality":         {samples{{Quality: 3}}, api.ErrKind},
	"a value too great":  {samples{good(0, api.MaxValue+1)}, api.ErrArg},
	"a bad value":        {samples{{Value: 1, Quality: api.Bad}}, api.ErrForm},
	"samples out of use": {samples{good(1, 0), good(1, 0)}, api.ErrOrder},
}

// wrongFrames has wrong lists of frames.
var wrongFrames = map[string]struct {
	f    frames
	want api.Errno
}{
	"too many":                    {make(frames, api.MaxFrames+1), api.ErrLarge},
	"as many as can be, wrong":    {make(frames, api.MaxFrames), api.ErrArg},
	"an empty one":                {framed(3, 3), api.ErrArg},
	"a wrong end":                 {framed(3, 2), api.ErrArg},
	"before all moments":          {framed(-1, 2), api.ErrArg},
	"after all moments":           {framed(0, api.End+1), api.ErrArg},
	"at the end":                  {framed(api.End, api.End), api.ErrArg},
	"the least ints":              {framed(math.MinInt, math.MinInt), api.ErrArg},
	"the least end":               {framed(0, math.MinInt), api.ErrArg},
	"the greatest ints":           {framed(math.MaxInt, math.MaxInt), api.ErrArg},
	"the least and the greatest":  {framed(math.MinInt, math.MaxInt), api.ErrArg},
	"the second one is empty":     {framed(0, 1, 5, 5), api.ErrArg},
	"one that begins too early":   {framed(0, 5, 4, 8), api.ErrOrder},
	"the same again":              {framed(0, 5, 0, 5), api.ErrOrder},
	"an earlier one":              {framed(5, 8, 0, 5), api.ErrOrder},
	"a wrong order, then no end":  {framed(0, 5, 4, 8, 9, 9), api.ErrOrder},
	"no end, in a wrong order":    {framed(5, 8, 0, 0), api.ErrArg},
	"no end, then a wrong order":  {framed(0, 5, 9, 9, 4, 8), api.ErrArg},
	"before the one before, only": {framed(0, 5, 6, 8, 7, 9), api.ErrOrder},
}

func TestP81CheckFrames(t *testing.T) {
	for name, c := range wrongFrames {
		same(t, name, batch.CheckFrames(c.f), c.want)
	}
	many := make(frames, api.MaxFrames)
	for i := range many {
		many[i] = frame(i, i+1)
	}
	for name, f := range map[string]frames{
		"none":              nil,
		"one":               framed(3, 5),
		"all moments":       framed(0, api.End),
		"a millisecond":     framed(0, 1),
		"the last one":      framed(api.End-1, api.End),
		"next to another":   framed(0, 5, 5, 8),
		"three":             framed(0, 5, 6, 8, 9, 10),
		"as many as can be": many,
	} {
		same(t, name, batch.CheckFrames(f), api.OK)
	}
}
