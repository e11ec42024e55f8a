package sample_test

import (
	"fmt"
	"math"
	"math/rand"
	"testing"

	"plantlog/api"
	"plantlog/sample"
)

func TestP13Scale(t *testing.T) {
	for name, c := range map[string]struct {
		l      series
		factor api.Fraction
		offset int
		want   series
	}{
		"no samples":             {nil, api.Fraction{Num: 1, Den: 2}, 0, nil},
		"example":                {series{good(1, 5)}, api.Fraction{Num: 1, Den: 2}, 0, series{good(1, 3)}},
		"half away from 0":       {series{good(1, 5), good(2, -5), good(3, 1), good(4, -1)}, api.Fraction{Num: 1, Den: 2}, 0, series{good(1, 3), good(2, -3), good(3, 1), good(4, -1)}},
		"half, a factor below 0": {series{good(1, 5), good(2, -5)}, api.Fraction{Num: -1, Den: 2}, 0, series{good(1, -3), good(2, 3)}},
		"less than half":         {series{good(1, 4), good(2, -4), good(3, 5), good(4, -5)}, api.Fraction{Num: 1, Den: 3}, 0, series{good(1, 1), good(2, -1), good(3, 2), good(4, -2)}},
		"rounded after offset":   {series{good(1, 5), good(2, 1)}, api.Fraction{Num: 1, Den: 2}, -5, series{good(1, -3), good(2, -5)}},
		"qualities stay":         {series{uncertain(1, 4), bad(2), good(3, 2)}, api.Fraction{Num: 3, Den: 1}, 1, series{uncertain(1, 13), bad(2), good(3, 7)}},
		"by 0":                   {series{good(1, 4), bad(2)}, api.Fraction{Num: 0, Den: 1}, 9, series{good(1, 9), bad(2)}},
		"up to the bound":        {series{good(1, 500_000), good(2, -500_000)}, api.Fraction{Num: 2, Den: 1}, 0, series{good(1, api.MaxValue), good(2, -api.MaxValue)}},
		"above the bound":        {series{good(1, api.MaxValue), uncertain(2, 999_999)}, api.Fraction{Num: 1, Den: 1}, 1, series{bad(1), uncertain(2, api.MaxValue)}},
		"below the bound":        {series{good(1, -api.MaxValue), uncertain(2, -999_999)}, api.Fraction{Num: 1, Den: 1}, -1, series{bad(1), uncertain(2, -api.MaxValue)}},
		"rounded onto the bound": {series{good(1, 999_999)}, api.Fraction{Num: 1_000_000, Den: 999_999}, 0, series{good(1, api.MaxValue)}},
		"rounded down to it":     {series{good(1, 666_667)}, api.Fraction{Num: 3, Den: 2}, -1, series{good(1, api.MaxValue)}},
		"rounded over the bound": {series{good(1, 666_667)}, api.Fraction{Num: 3, Den: 2}, 0, series{bad(1)}},
		"the greatest products":  {series{good(1, api.MaxValue)}, api.Fraction{Num: api.MaxFactor, Den: 1}, api.MaxValue, series{bad(1)}},
		"the least, and back":    {series{good(1, api.MaxValue)}, api.Fraction{Num: -api.MaxFactor, Den: 999_999}, api.MaxValue, series{good(1, -1)}},
	} {
		got, e := sample.Scale(c.l, c.factor, c.offset)
		same(t, name, []any{got, e}, []any{c.want, api.OK})
	}
}

// TestP13ScaleNearest checks what nearest means: no integer is nearer, and no equally near one is farther from 0.
func TestP13ScaleNearest(t *testing.T) {
	r := rand.New(rand.NewSource(4))
	for range 500 {
		den := 1 + r.Intn(9)
		factor := api.Fraction{Num: r.Intn(20)*den + 1 - 10*den, Den: den}
		value, offset := r.Intn(200)-100, r.Intn(200)-100
		got, e := sample.Scale(series{good(1, value)}, factor, offset)
		if e != api.OK || len(got) != 1 {
			t.Fatalf("Scale by %v: %v, %v", factor, got, e)
		}
		exact := value*factor.Num + offset*den
		distance := func(n int) int { return max(n*den-exact, exact-n*den) }
		n := got[0].Value
		farther := n + 1
		if exact < 0 {
			farther = n - 1
		}
		if distance(n-1) < distance(n) || distance(n+1) < distance(n) || distance(farther) == distance(n) {
			t.Errorf("%d by %v and %d is %d", value, factor, offset, n)
		}
	}
}

func TestP13ScaleErrors(t *testing.T) {
	for c, want := range map[struct {
		factor api.Fraction
		offset int
	}]api.Errno{
		{api.Fraction{Num: api.MaxFactor, Den: 1}, api.MaxValue}:   api.OK,
		{api.Fraction{Num: -api.MaxFactor, Den: 1}, -api.MaxValue}: api.OK,
		{api.Fraction{Num: -1, Den: api.MaxFactor}, 0}:             api.OK,
		{api.Fraction{Num: 2, Den: 2}, 0}:                          api.ErrForm,
		{api.Fraction{Num: -2, Den: 4}, 0}:                         api.ErrForm,
		{api.Fraction{Num: 1, Den: 0}, 0}:                          api.ErrForm,
		{api.Fraction{Num: 1, Den: -1}, 0}:                         api.ErrForm,
		{api.Fraction{Num: 0, Den: 0}, math.MaxInt}:                api.ErrForm,
		{api.Fraction{Num: math.MinInt, Den: 2}, 0}:                api.ErrForm,
		{api.Fraction{Num: math.MinInt, Den: 1}, 0}:                api.ErrArg,
		{api.Fraction{Num: api.MaxFactor + 1, Den: 1}, 0}:          api.ErrArg,
		{api.Fraction{Num: -api.MaxFactor - 1, Den: 1}, 0}:         api.ErrArg,
		{api.Fraction{Num: 1, Den: api.MaxFactor + 1}, 0}:          api.ErrArg,
		{api.Fraction{Num: 1, Den: 1}, api.MaxValue + 1}:           api.ErrArg,
		{api.Fraction{Num: 1, Den: 1}, -api.MaxValue - 1}:          api.ErrArg,
		{api.Fraction{Num: 1, Den: 1}, math.MinInt}:                api.ErrArg,
	} {
		got, e := sample.Scale(nil, c.factor, c.offset)
		same(t, fmt.Sprint("Scale by ", c), []any{got, e}, []any{series{}, want})
	}
}

func TestP13Limit(t *testing.T) {
	l := series{good(1, 5), good(2, 50), uncertain(3, -50), bad(4), uncertain(5, 10), good(6, 0), good(7, -1), good(8, 11)}
	got, e := sample.Limit(l, 0, 10)
	same(t, "from 0 to 10", []any{got, e}, []any{series{good(1, 5), uncertain(2, 10), uncertain(3, 0), bad(4), uncertain(5, 10), good(6, 0), uncertain(7, 0), uncertain(8, 10)}, api.OK})
	got, e = sample.Limit(l, 5, 5)
	same(t, "from 5 to 5", []any{got, e}, []any{series{good(1, 5), uncertain(2, 5), uncertain(3, 5), bad(4), uncertain(5, 5), uncertain(6, 5), uncertain(7, 5), uncertain(8, 5)}, api.OK})
	got, e = sample.Limit(l, -api.MaxValue, api.MaxValue)
	same(t, "all", []any{got, e}, []any{l, api.OK})
	got, e = sample.Limit(nil, 0, 10)
	same(t, "no samples", []any{got, e}, []any{series{}, api.OK})
	for _, c := range [][2]int{{1, 0}, {-api.MaxValue - 1, 0}, {0, api.MaxValue + 1}, {math.MinInt, math.MaxInt}, {math.MaxInt, math.MinInt}, {math.MinInt, math.MinInt}, {math.MaxInt, math.MaxInt}} {
		got, e := sample.Limit(l, c[0], c[1])
		same(t, fmt.Sprint("Limit ", c), []any{got, e}, []any{series{}, api.ErrArg})
	}
}
