package batch_test

import (
	"fmt"
	"math"
	"math/big"
	"math/rand"
	"slices"
	"testing"

	"plantlog/api"
	"plantlog/batch"
	"plantlog/query"
)

func TestP83Profile(t *testing.T) {
	line := samples{good(0, 0), good(3, 1), good(10, 8)}
	for name, c := range map[string]struct {
		l     samples
		f     api.Window
		parts int
		want  []int
		ok    bool
	}{
		"the example":                 {line, frame(0, 10), 5, []int{0, 666, 2000, 4000, 6000, 8000}, true},
		"the ends":                    {line, frame(0, 10), 1, []int{0, 8000}, true},
		"rounded moments":             {line, frame(0, 10), 3, []int{0, 1000, 4000, 8000}, true},
		"more parts than time":        {samples{good(0, 0), good(2, 2)}, frame(0, 2), 5, []int{0, 0, 0, 1000, 1000, 2000}, true},
		"values rounded down below 0": {samples{good(0, 0), good(3, -1)}, frame(0, 3), 3, []int{0, -334, -667, -1000}, true},
		"after the last sample":       {line, frame(10, 20), 2, []int{8000, 8000, 8000}, true},
		"uncertain ones":              {samples{uncertain(0, 0), good(4, 8)}, frame(0, 4), 2, []int{0, 4000, 8000}, true},
		"a sample at the end":         {samples{good(0, 1), good(4, 5)}, frame(0, 4), 1, []int{1000, 5000}, true},
		"a bad one at the end":        {samples{good(0, 1), bad(4)}, frame(0, 4), 1, nil, false},
		"a bad one after it":          {samples{good(0, 1), bad(5)}, frame(0, 4), 1, []int{1000, 1000}, true},
		"a bad one between moments":   {samples{good(0, 1), bad(1), good(2, 7)}, frame(0, 4), 2, []int{1000, 7000, 7000}, true},
		"a bad one at a moment":       {samples{good(0, 1), bad(1), good(3, 7)}, frame(0, 4), 2, nil, false},
		"a missing beginning":         {samples{good(1, 1)}, frame(0, 4), 1, nil, false},
		"no samples":                  {nil, frame(0, 4), 1, nil, false},
		"up to the end of all":        {samples{good(0, 1), good(api.End-1, 1)}, frame(api.End-2, api.End), 2, []int{1000, 1000, 1000}, true},
		"the last moment of all":      {samples{good(0, 1), good(api.End-1, -3)}, frame(api.End-1, api.End), 1, []int{-3000, -3000}, true},
		"nearly the end of all":       {samples{good(api.End-3, 0), good(api.End-1, 9)}, frame(api.End-3, api.End), 3, []int{0, 4500, 9000, 9000}, true},
		"the greatest values":         {samples{good(0, api.MaxValue), good(2, -api.MaxValue)}, frame(0, 2), 2, []int{1000 * api.MaxValue, 0, -1000 * api.MaxValue}, true},
		"a steep line, over all time": {samples{good(0, -api.MaxValue), good(api.End-1, api.MaxValue)}, frame(0, api.End), 2, []int{-1000 * api.MaxValue, 0, 1000 * api.MaxValue}, true},
	} {
		got, ok, e := batch.Profile(c.l, c.f, c.parts)
		same(t, name, []any{got, ok, e}, []any{c.want, c.ok, api.OK})
	}
}

func TestP83ProfileErrors(t *testing.T) {
	for name, c := range wrongSeries {
		got, ok, e := batch.Profile(c.l, frame(1, 0), 0)
		same(t, name, []any{got, ok, e}, []any{"[]", false, c.want})
	}
	for name, c := range wrongFrames {
		if len(c.f) != 1 {
			continue
		}
		got, ok, e := batch.Profile(samples{good(0, 1)}, c.f[0], 0)
		same(t, name, []any{got, ok, e}, []any{"[]", false, c.want})
	}
	for _, parts := range []int{0, -1, api.MaxParts + 1, math.MinInt, math.MaxInt} {
		got, ok, e := batch.Profile(samples{good(0, 1)}, frame(0, 5), parts)
		same(t, fmt.Sprint(parts, " parts"), []any{got, ok, e}, []any{"[]", false, api.ErrArg})
	}
	got, ok, e := batch.Profile(samples{good(0, 1)}, frame(0, 5), api.MaxParts)
	same(t, "as many parts as can be", []any{got, ok, e}, []any{slices.Repeat([]int{1000}, api.MaxParts+1), true, api.OK})
}

// profileAsTheDocumentSays asks query for each value, with the whole series.
func profileAsTheDocumentSays(l samples, f api.Window, parts int) ([]int, bool) {
	var values []int
	for k := range parts + 1 {
		at := big.NewInt(int64(k))
		at.Mul(at, big.NewInt(int64(f.To-f.From)))
		at.Quo(at, big.NewInt(int64(parts)))
		x, ok, e := query.ValueAt(l, false, min(f.From+int(at.Int64()), api.End-1))
		if e != api.OK || !ok || x.Quality == api.Bad {
			return nil, false
		}
		n := big.NewInt(int64(x.Value.Num))
		n.Mul(n, big.NewInt(1000))
		// Div of package big rounds down, as the denominator is above 0.
		values = append(values, int(n.Div(n, big.NewInt(int64(x.Value.Den))).Int64()))
	}
	return values, true
}

func TestP83ProfileAsTheDocumentSays(t *testing.T) {
	r := rand.New(rand.NewSource(96))
	count := map[bool]int{}
	for range 2000 {
		l, f, parts := someSamples(r, 40, 9), frame(r.Intn(20), 21+r.Intn(30)), 1+r.Intn(30)
		for i := range l {
			if r.Intn(6) > 0 && l[i].Quality == api.Bad {
				l[i].Quality = api.Good
			}
			if l[i].Quality != api.Bad {
				l[i].Value -= 4
			}
		}
		if r.Intn(4) == 0 {
			for i := range l {
				l[i].At *= 8_000_000_000
			}
			f.From, f.To = f.From*8_000_000_000, min(f.To*8_000_000_001, api.End)
		}
		want, is := profileAsTheDocumentSays(l, f, parts)
		count[is]++
		got, ok, e := batch.Profile(l, f, parts)
		same(t, fmt.Sprintf("%+v %+v %d", l, f, parts), []any{got, ok, e}, []any{want, is, api.OK})
	}
	if count[true] < 300 || count[false] < 300 {
		t.Errorf("%d profiles, %d without", count[true], count[false])
	}
}

const most = 1000 * api.MaxValue

// wrongProfiles has profiles that are none.
var wrongProfiles = map[string]struct {
	values []int
	want   api.Errno
}{
	"no values":                {nil, api.ErrForm},
	"one value":                {[]int{5}, api.ErrForm},
	"one value, too great":     {[]int{most + 1}, api.ErrForm},
	"too many":                 {make([]int, api.MaxParts+2), api.ErrLarge},
	"too many, some too great": {slices.Repeat([]int{most + 1}, api.MaxParts+2), api.ErrLarge},
	"a value too great":        {[]int{most + 1, 0}, api.ErrArg},
	"a value too small":        {[]int{0, -most - 1}, api.ErrArg},
	"the least int":            {[]int{0, math.MinInt}, api.ErrArg},
	"the greatest int":         {[]int{0, 0, math.MaxInt}, api.ErrArg},
}

func TestP83Deviation(t *testing.T) {
	long := make([]int, api.MaxParts+1)
	longer := slices.Clone(long)
	longer[api.MaxParts] = -1
	for name, c := range map[string]struct {
		a, b        []int
		want, where int
	}{
		"the same":          {[]int{1, 2}, []int{1, 2}, 0, 0},
		"the first":         {[]int{5, 2}, []int{1, 2}, 4, 0},
		"the last":          {[]int{1, 2, 3}, []int{1, 2, 9}, 6, 2},
		"of two":            {[]int{1, 2, 3}, []int{3, 1, 5}, 2, 0},
		"of two after one":  {[]int{1, 2, 3, 4}, []int{2, 5, 2, 1}, 3, 1},
		"below 0":           {[]int{-5, -2}, []int{-5, 3}, 5, 1},
		"the extremes":      {[]int{most, 0}, []int{-most, 0}, 2 * most, 0},
		"the other way":     {[]int{0, -most}, []int{0, most}, 2 * most, 1},
		"as many as can be": {long, longer, 1, api.MaxParts},
	} {
		n, where, e := batch.Deviation(c.a, c.b)
		same(t, name, []any{n, where, e}, []any{c.want, c.where, api.OK})
		n, where, e = batch.Deviation(c.b, c.a)
		same(t, name+", exchanged", []any{n, where, e}, []any{c.want, c.where, api.OK})
	}
	for name, c := range wrongProfiles {
		n, where, e := batch.Deviation(c.values, nil)
		same(t, name, []any{n, where, e}, []any{0, 0, c.want})
		n, where, e = batch.Deviation([]int{1, 2, 3, 4}, c.values)
		same(t, name+", the second", []any{n, where, e}, []any{0, 0, c.want})
	}
	n, where, e := batch.Deviation([]int{1, 2, 3}, []int{1, 2})
	same(t, "a shorter one", []any{n, where, e}, []any{0, 0, api.ErrForm})
	n, where, e = batch.Deviation([]int{1, 2}, []int{1, 2, 3})
	same(t, "a longer one", []any{n, where, e}, []any{0, 0, api.ErrForm})
}

func TestP83Closest(t *testing.T) {
	l := samples{good(0, 0), good(10, 10), bad(20), good(30, 0), good(40, 10), good(50, 0)}
	for name, c := range map[string]struct {
		f      frames
		golden []int
		want   int
		ok     bool
	}{
		"none":                           {nil, []int{0, 0}, 0, false},
		"one":                            {framed(0, 10), []int{0, 0}, 0, true},
		"the same":                       {framed(0, 10, 10, 12, 40, 50), []int{10_000, 0}, 2, true},
		"the closest":                    {framed(0, 10, 30, 35, 40, 50), []int{0, 4000}, 1, true},
		"the first of equal ones":        {framed(0, 10, 30, 40), []int{0, 10_000}, 0, true},
		"the first of equally close":     {framed(0, 8, 30, 36), []int{0, 7000}, 0, true},
		"one that is false is skipped":   {framed(0, 10, 15, 20, 40, 50), []int{10_000, 0}, 2, true},
		"the first one is false":         {framed(15, 20, 40, 50), []int{10_000, 10_000}, 1, true},
		"all are false":                  {framed(12, 20, 20, 30), []int{0, 0}, 0, false},
		"the middle decides":             {framed(0, 10, 30, 50), []int{0, 10_000, 0}, 1, true},
		"the middle decides, the others": {framed(0, 10, 30, 50), []int{0, 5000, 10_000}, 0, true},
		"far from all":                   {framed(0, 10, 40, 50), []int{most, -most}, 1, true},
	} {
		got, ok, e := batch.Closest(l, c.f, c.golden)
		same(t, name, []any{got, ok, e}, []any{c.want, c.ok, api.OK})
	}
}

func TestP83ClosestErrors(t *testing.T) {
	for name, c := range wrongSeries {
		got, ok, e := batch.Closest(c.l, framed(1, 0), nil)
		same(t, name, []any{got, ok, e}, []any{0, false, c.want})
	}
	for name, c := range wrongFrames {
		got, ok, e := batch.Closest(samples{good(0, 1)}, c.f, nil)
		same(t, name, []any{got, ok, e}, []any{0, false, c.want})
	}
	for name, c := range wrongProfiles {
		got, ok, e := batch.Closest(samples{good(0, 1)}, framed(0, 5, 5, 8), c.values)
		same(t, name, []any{got, ok, e}, []any{0, false, c.want})
		got, ok, e = batch.Closest(nil, nil, c.values)
		same(t, name+", without frames", []any{got, ok, e}, []any{0, false, c.want})
	}
}

// TestP83ClosestAsTheDocumentSays: it is the first one with the least Deviation of those with a Profile.
func TestP83ClosestAsTheDocumentSays(t *testing.T) {
	r := rand.New(rand.NewSource(97))
	for range 2000 {
		l, f := someSamples(r, 40, 4), someFrames(r, 45)
		golden := make([]int, 2+r.Intn(3))
		for i := range golden {
			golden[i] = 500 * r.Intn(8)
		}
		want, least, is := 0, 0, false
		for i, x := range f {
			values, ok, e := batch.Profile(l, x, len(golden)-1)
			same(t, "Profile", e, api.OK)
			if !ok {
				continue
			}
			n, _, e := batch.Deviation(values, golden)
			same(t, "Deviation", e, api.OK)
			if !is || n < least {
				want, least, is = i, n, true
			}
		}
		got, ok, e := batch.Closest(l, f, golden)
		same(t, fmt.Sprintf("%+v %+v %v", l, f, golden), []any{got, ok, e}, []any{want, is, api.OK})
	}
}
