package retain_test

import (
	"fmt"
	"math"
	"math/rand"
	"testing"

	"plantlog/api"
	"plantlog/retain"
)

// same compares as printed, so that an empty and a nil list are the same.
func same(t *testing.T, what string, got, want any) {
	t.Helper()
	if g, w := fmt.Sprintf("%+v", got), fmt.Sprintf("%+v", want); g != w {
		t.Errorf("%s: got %.400s, want %.400s", what, g, w)
	}
}

type (
	samples = []api.Sample
	levels  = []api.Level
	bins    = []api.Bin
	holds   = []api.Hold
)

func good(at, value int) api.Sample { return api.Sample{At: at, Value: value, Quality: api.Good} }

func uncertain(at, value int) api.Sample {
	return api.Sample{At: at, Value: value, Quality: api.Uncertain}
}

func bad(at int) api.Sample { return api.Sample{At: at, Quality: api.Bad} }

func window(from, to int) api.Window { return api.Window{From: from, To: to} }

func level(step, keep int) api.Level { return api.Level{Step: step, Keep: keep} }

func bin(from, sum, count, other, low, high int) api.Bin {
	return api.Bin{From: from, Sum: sum, Count: count, Other: other, Low: low, High: high}
}

// hold returns a hold of some time, for a tag, in force from made on, before ends.
func hold(key, tag string, from, to, made, ends int) api.Hold {
	return api.Hold{Key: key, Tag: tag, Time: window(from, to), Made: made, Ends: ends}
}

// divisors are short steps.
var divisors = []int{1, 2, 3, 4, 5, 6, 8, 9, 10, 12, 15, 16, 18, 20}

// someStep returns a short step that is a multiple of another one, and greater.
func someStep(r *rand.Rand, of int) int {
	for {
		if step := of * (2 + r.Intn(4)); api.DayLong%step == 0 {
			return step
		}
	}
}

// someLevels returns up to 4 levels, with Keep of some ten milliseconds.
func someLevels(r *rand.Rand) levels {
	l := levels{level(0, 1+r.Intn(20))}
	step := 1 + r.Intn(3)
	for range r.Intn(4) {
		l = append(l, level(step, l[len(l)-1].Keep+1+r.Intn(15)))
		step = someStep(r, step)
	}
	return l
}

// someSamples returns samples at some of the moments before long.
func someSamples(r *rand.Rand, long int) samples {
	var l samples
	for at := range long {
		switch r.Intn(6) {
		case 0, 1:
			l = append(l, good(at, r.Intn(21)-10))
		case 2:
			l = append(l, uncertain(at, r.Intn(21)-10))
		case 3:
			l = append(l, bad(at))
		}
	}
	return l
}

// wrongSeries has a wrong series for each error.
var wrongSeries = map[string]struct {
	l    samples
	want api.Errno
}{
	"too many samples":   {make(samples, api.MaxSamples+1), api.ErrLarge},
	"no moment":          {samples{good(-1, 0)}, api.ErrArg},
	"no quality":         {samples{{Quality: 3}}, api.ErrKind},
	"a value too great":  {samples{good(0, api.MaxValue+1)}, api.ErrArg},
	"a bad value":        {samples{{Value: 1, Quality: api.Bad}}, api.ErrForm},
	"samples out of use": {samples{good(1, 0), good(1, 0)}, api.ErrOrder},
}

// noSteps are numbers that are no steps of bins.
var noSteps = []int{0, -1, 7, 11, -100, api.DayLong - 1, api.DayLong + 1, 2 * api.DayLong, -api.DayLong, math.MinInt, math.MaxInt}

// wrongLevels has wrong lists of levels.
var wrongLevels = map[string]struct {
	l    levels
	want api.Errno
}{
	"none":                           {nil, api.ErrNone},
	"an empty list":                  {levels{}, api.ErrNone},
	"too many":                       {make(levels, api.MaxLevels+1), api.ErrLarge},
	"as many as can be, wrong":       {make(levels, api.MaxLevels), api.ErrArg},
	"no Keep":                        {levels{level(0, 0)}, api.ErrArg},
	"a Keep below 0":                 {levels{level(0, -1)}, api.ErrArg},
	"a Keep too great":               {levels{level(0, api.End+1)}, api.ErrArg},
	"the least Keep":                 {levels{level(0, math.MinInt)}, api.ErrArg},
	"the greatest Keep":              {levels{level(0, math.MaxInt)}, api.ErrArg},
	"no step":                        {levels{level(7, 5)}, api.ErrArg},
	"a Step below 0":                 {levels{level(-1, 5)}, api.ErrArg},
	"no step, the second one":        {levels{level(0, 5), level(7, 6)}, api.ErrArg},
	"a Step of two days":             {levels{level(0, 5), level(2*api.DayLong, 6)}, api.ErrArg},
	"no Keep, the second one":        {levels{level(0, 5), level(10, 0)}, api.ErrArg},
	"no samples first":               {levels{level(10, 5)}, api.ErrForm},
	"no samples first, of two":       {levels{level(10, 5), level(20, 6)}, api.ErrForm},
	"samples again":                  {levels{level(0, 5), level(0, 6)}, api.ErrForm},
	"samples at the end":             {levels{level(0, 5), level(10, 6), level(0, 7)}, api.ErrForm},
	"samples again, out of order":    {levels{level(0, 5), level(0, 5)}, api.ErrForm},
	"the same Keep":                  {levels{level(0, 5), level(10, 5)}, api.ErrOrder},
	"a lesser Keep":                  {levels{level(0, 5), level(10, 4)}, api.ErrOrder},
	"the same Step":                  {levels{level(0, 5), level(10, 6), level(10, 7)}, api.ErrOrder},
	"a lesser Step":                  {levels{level(0, 5), level(10, 6), level(5, 7)}, api.ErrOrder},
	"a lesser Step, no divisor":      {levels{level(0, 5), level(10, 6), level(8, 7)}, api.ErrOrder},
	"the same Keep, no multiple":     {levels{level(0, 5), level(10, 6), level(15, 6)}, api.ErrOrder},
	"no multiple":                    {levels{level(0, 5), level(10, 6), level(15, 7)}, api.ErrRule},
	"no multiple, then no step":      {levels{level(0, 5), level(10, 6), level(15, 7), level(7, 8)}, api.ErrRule},
	"no multiple of the one before":  {levels{level(0, 5), level(5, 6), level(10, 7), level(15, 8)}, api.ErrRule},
	"no step, then no multiple":      {levels{level(0, 5), level(7, 6), level(10, 7), level(15, 8)}, api.ErrArg},
	"no step, out of order":          {levels{level(0, 5), level(7, 5)}, api.ErrArg},
	"no samples first, then no step": {levels{level(10, 5), level(7, 6)}, api.ErrForm},
	"no samples first, then no Keep": {levels{level(10, 5), level(10, 0)}, api.ErrForm},
	"no step first, then samples":    {levels{level(7, 5), level(0, 6)}, api.ErrArg},
	"wrong Keep and Step":            {levels{level(7, 0)}, api.ErrArg},
}

func TestP91CheckLevels(t *testing.T) {
	for name, c := range wrongLevels {
		same(t, name, retain.CheckLevels(c.l), c.want)
	}
	for _, n := range noSteps {
		if n != 0 {
			same(t, fmt.Sprint("Step ", n), retain.CheckLevels(levels{level(0, 1), level(n, 2)}), api.ErrArg)
		}
	}
	for name, l := range map[string]levels{
		"samples":           {level(0, 5)},
		"the least Keep":    {level(0, 1)},
		"the greatest Keep": {level(0, api.End)},
		"the least Step":    {level(0, 1), level(1, 2)},
		"the greatest Step": {level(0, 1), level(api.DayLong, api.End)},
		"any first step":    {level(0, 1), level(15, 2)},
		"three":             {level(0, 5), level(10, 6), level(30, 7)},
		"as many as can be": {level(0, 1), level(1, 2), level(2, 3), level(4, 4), level(8, 5), level(api.DayLong, 6)},
	} {
		same(t, name, retain.CheckLevels(l), api.OK)
	}
}
