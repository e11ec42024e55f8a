package retain_test

import (
	"fmt"
	"math"
	"math/big"
	"math/rand"
	"slices"
	"testing"

	"plantlog/api"
	"plantlog/retain"
)

const hour = 3_600_000

func TestP94Cost(t *testing.T) {
	for name, c := range map[string]struct {
		l    levels
		rate int
		want int
	}{
		"an hour":                  {levels{level(0, hour)}, 100, 100},
		"a little more":            {levels{level(0, hour+1)}, 100, 101},
		"a little less":            {levels{level(0, hour-1)}, 100, 100},
		"a hundredth of it":        {levels{level(0, hour/100)}, 100, 1},
		"a millisecond":            {levels{level(0, 1)}, 1, 1},
		"a millisecond, often":     {levels{level(0, 1)}, api.MaxQuota, 1},
		"four milliseconds, often": {levels{level(0, 4)}, api.MaxQuota, 2},
		"two levels":               {levels{level(0, hour), level(60_000, 2*hour)}, 100, 221},
		"a bin more":               {levels{level(0, hour), level(60_000, 2*hour+1)}, 100, 222},
		"a millisecond less":       {levels{level(0, hour), level(60_000, 2*hour-1)}, 100, 221},
		"less than a bin":          {levels{level(0, 1), level(api.DayLong, 2)}, 1, 3},
		"three levels":             {levels{level(0, 1), level(10, 100), level(50, 101)}, 1, 1 + 11 + 4},
		"all moments":              {levels{level(0, api.End)}, api.MaxQuota, 96_024_000_000},
		"nearly all moments":       {levels{level(0, api.End-1)}, api.MaxQuota, 96_024_000_000},
		"all moments and bins":     {levels{level(0, api.End-1), level(1, api.End)}, api.MaxQuota, 96_024_000_000 + api.End + 1},
	} {
		got, e := retain.Cost(c.l, c.rate)
		same(t, name, []any{got, e}, []any{c.want, api.OK})
	}
}

// wrongNumbers are neither rates nor quotas.
var wrongNumbers = []int{0, -1, api.MaxQuota + 1, math.MinInt, math.MaxInt}

func TestP94Errors(t *testing.T) {
	for name, c := range wrongLevels {
		got, e := retain.Cost(c.l, 0)
		same(t, name, []any{got, e}, []any{0, c.want})
		fitted, ok, e := retain.Fit(c.l, 0, 0)
		same(t, name, []any{fitted, ok, e}, []any{"[]", false, c.want})
	}
	l := levels{level(0, hour), level(60_000, 2*hour)}
	for _, n := range wrongNumbers {
		got, e := retain.Cost(l, n)
		same(t, fmt.Sprint("rate ", n), []any{got, e}, []any{0, api.ErrArg})
		fitted, ok, e := retain.Fit(l, n, 1000)
		same(t, fmt.Sprint("rate ", n), []any{fitted, ok, e}, []any{"[]", false, api.ErrArg})
		fitted, ok, e = retain.Fit(l, 1, n)
		same(t, fmt.Sprint("quota ", n), []any{fitted, ok, e}, []any{"[]", false, api.ErrArg})
	}
}

func TestP94Fit(t *testing.T) {
	two := levels{level(0, hour), level(60_000, 2*hour)}
	three := levels{level(0, 1000), level(10, 2000), level(100, 3000)} // with rate 3600 they cost 1, 201 and 31
	for name, c := range map[string]struct {
		l           levels
		rate, quota int
		want        levels
	}{
		"it fits":                         {two, 100, 221, two},
		"more than fits":                  {two, 100, api.MaxQuota, two},
		"the first level":                 {two, 100, 171, levels{level(0, hour/2), level(60_000, 2*hour)}},
		"a little less":                   {two, 100, 220, levels{level(0, hour/100*99), level(60_000, 2*hour)}},
		"rounded down":                    {levels{level(0, hour)}, 7, 3, levels{level(0, 1_542_857)}},
		"the least cost":                  {two, 100, 122, levels{level(0, hour/100), level(60_000, 2*hour)}},
		"the second level":                {two, 100, 121, levels{level(0, 1), level(60_000, 119*60_000)}},
		"the second level, less":          {two, 100, 4, levels{level(0, 1), level(60_000, 2*60_000)}},
		"the least of the second level":   {two, 100, 3, levels{level(0, 1), level(60_000, 60_000)}},
		"not enough":                      {two, 100, 2, nil},
		"not enough for one":              {levels{level(0, hour), level(1, 2*hour), level(2, 3*hour)}, 1, 1, nil},
		"one is enough":                   {levels{level(0, hour)}, 100, 1, levels{level(0, hour/100)}},
		"the greatest rate":               {levels{level(0, api.End)}, api.MaxQuota, 1, levels{level(0, 3)}},
		"the first one is not of use":     {three, 3600, 232, levels{level(0, 1), level(10, 1990), level(100, 3000)}},
		"the second one as well":          {three, 3600, 33, levels{level(0, 1), level(10, 2), level(100, 2900)}},
		"the second one is enough":        {three, 3600, 34, levels{level(0, 1), level(10, 10), level(100, 3000)}},
		"all three":                       {three, 3600, 5, levels{level(0, 1), level(10, 2), level(100, 100)}},
		"the third one, as far as it can": {three, 3600, 4, nil},
		"one more than the one before":    {levels{level(0, 10), level(1, 20), level(2, 30)}, 1, 7, levels{level(0, 1), level(1, 2), level(2, 4)}},
		"a limit by the one before":       {levels{level(0, 10), level(1, 20), level(2, 30)}, 1, 6, nil},
		"the limit is 3":                  {levels{level(0, 10), level(1, 20), level(3, 30)}, 1, 6, levels{level(0, 1), level(1, 2), level(3, 3)}},
		"all moments":                     {levels{level(0, api.End-1), level(1, api.End)}, api.MaxQuota, api.MaxQuota, levels{level(0, 1), level(1, api.MaxQuota-2)}},
		"long steps":                      {levels{level(0, 1), level(api.DayLong/2, api.End-1), level(api.DayLong, api.End)}, 1, 10, levels{level(0, 1), level(api.DayLong/2, 2), level(api.DayLong, 6*api.DayLong)}},
	} {
		got, ok, e := retain.Fit(c.l, c.rate, c.quota)
		same(t, name, []any{got, ok, e}, []any{c.want, c.want != nil, api.OK})
	}
}

// cost returns what levels cost, as the document says it, with numbers without bounds.
func cost(l levels, rate int) int {
	total := big.NewInt(0)
	for _, x := range l {
		parts := big.NewRat(int64(x.Keep), int64(max(x.Step, 1)))
		if x.Step == 0 {
			parts = big.NewRat(int64(x.Keep), hour)
			parts.Mul(parts, big.NewRat(int64(rate), 1))
		}
		// Rounded up: the negative quotient, rounded down by Div, is negative again.
		up := new(big.Int).Neg(new(big.Int).Div(new(big.Int).Neg(parts.Num()), parts.Denom()))
		total.Add(total, up)
		if x.Step > 0 {
			total.Add(total, big.NewInt(1))
		}
	}
	return int(total.Int64())
}

func TestP94CostAsTheDocumentSays(t *testing.T) {
	r := rand.New(rand.NewSource(120))
	for range 2000 {
		l := levels{level(0, 1+r.Intn(api.End/10))}
		step := 1 + r.Intn(2)
		for range r.Intn(api.MaxLevels) {
			l = append(l, level(step, l[len(l)-1].Keep+1+r.Intn(api.End/10)))
			step = someStep(r, step)
		}
		rate := 1 + r.Intn(api.MaxQuota)
		got, e := retain.Cost(l, rate)
		same(t, fmt.Sprintf("%+v %d", l, rate), []any{got, e}, []any{cost(l, rate), api.OK})
	}
}

// reduced returns levels that cost at most a quota, as the document says it, millisecond by millisecond; nil if that is not enough.
func reduced(l levels, rate, quota int) levels {
	l = slices.Clone(l)
	for i := range l {
		least := 1
		if i > 0 {
			least = l[i-1].Keep + 1
		}
		for cost(l, rate) > quota && l[i].Keep > least {
			l[i].Keep--
		}
	}
	if cost(l, rate) > quota {
		return nil
	}
	return l
}

func TestP94FitAsTheDocumentSays(t *testing.T) {
	r := rand.New(rand.NewSource(121))
	all, less, none := 0, 0, 0
	for range 2000 {
		l, rate := someLevels(r), api.MaxQuota>>r.Intn(20)
		quota := 1 + r.Intn(cost(l, rate)+2)
		want := reduced(l, rate, quota)
		got, ok, e := retain.Fit(l, rate, quota)
		same(t, fmt.Sprintf("%+v, rate %d, quota %d", l, rate, quota), []any{got, ok, e}, []any{want, want != nil, api.OK})
		switch {
		case want == nil:
			none++
		case slices.Equal(want, l):
			all++
		default:
			less++
		}
		if want != nil && retain.CheckLevels(got) != api.OK {
			t.Errorf("%+v are no levels", got)
		}
	}
	if all < 100 || less < 100 || none < 100 {
		t.Error(all, less, none)
	}
}
