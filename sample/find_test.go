package sample_test

import (
	"fmt"
	"math"
	"math/big"
	"math/rand"
	"testing"

	"plantlog/api"
	"plantlog/sample"
)

type windows = []api.Window

func TestP12Gaps(t *testing.T) {
	for name, c := range map[string]struct {
		l    series
		w    api.Window
		most int
		want windows
	}{
		"example":                          {series{good(10, 1), good(50, 1)}, api.Window{From: 0, To: 100}, 20, windows{{From: 11, To: 50}, {From: 51, To: 100}}},
		"no samples":                       {nil, api.Window{From: 5, To: 7}, 1, windows{{From: 5, To: 7}}},
		"not longer than most":             {nil, api.Window{From: 5, To: 7}, 2, nil},
		"an empty window":                  {nil, api.Window{From: 5, To: 5}, 1, nil},
		"a bad sample does not end a gap":  {series{good(0, 1), bad(5), uncertain(10, 1)}, api.Window{From: 0, To: 11}, 5, windows{{From: 1, To: 10}}},
		"samples outside do not count":     {series{good(4, 1), good(20, 1)}, api.Window{From: 5, To: 20}, 1, windows{{From: 5, To: 20}}},
		"samples at the ends":              {series{good(5, 1), good(19, 1)}, api.Window{From: 5, To: 20}, 1, windows{{From: 6, To: 19}}},
		"one millisecond longer than most": {series{good(0, 1), good(12, 1)}, api.Window{From: 0, To: 13}, 10, windows{{From: 1, To: 12}}},
		"as long as most":                  {series{good(0, 1), good(12, 1)}, api.Window{From: 0, To: 13}, 11, nil},
		"all the time":                     {nil, api.Window{From: 0, To: api.End}, api.End - 1, windows{{From: 0, To: api.End}}},
		"the greatest most":                {nil, api.Window{From: 0, To: api.End}, api.End, nil},
	} {
		got, e := sample.Gaps(c.l, c.w, c.most)
		same(t, name, []any{got, e}, []any{c.want, api.OK})
	}
}

func TestP12GapsErrors(t *testing.T) {
	for _, w := range wrongWindows {
		got, e := sample.Gaps(nil, w, 1)
		same(t, fmt.Sprint("Gaps of ", w), []any{got, e}, []any{windows{}, api.ErrArg})
	}
	for _, most := range []int{0, -1, api.End + 1, math.MinInt, math.MaxInt} {
		got, e := sample.Gaps(nil, api.Window{From: 0, To: 10}, most)
		same(t, fmt.Sprint("most ", most), []any{got, e}, []any{windows{}, api.ErrArg})
	}
}

// TestP12GapsEachMillisecond compares with intervals found millisecond by millisecond.
func TestP12GapsEachMillisecond(t *testing.T) {
	r := rand.New(rand.NewSource(2))
	for range 300 {
		l := someSeries(r, 30)
		from := r.Intn(20)
		w, most := api.Window{From: from, To: from + r.Intn(20)}, 1+r.Intn(4)
		busy := map[int]bool{}
		for _, x := range l {
			busy[x.At] = x.Quality != api.Bad
		}
		var want windows
		for i := w.From; i < w.To; i++ {
			start := i
			for i < w.To && !busy[i] {
				i++
			}
			if i-start > most {
				want = append(want, api.Window{From: start, To: i})
			}
		}
		got, e := sample.Gaps(l, w, most)
		same(t, fmt.Sprint("Gaps of ", l, w, most), []any{got, e}, []any{want, api.OK})
	}
}

func TestP12Stuck(t *testing.T) {
	for name, c := range map[string]struct {
		l     series
		least int
		want  windows
	}{
		"no samples":                {nil, 2, nil},
		"a run":                     {series{good(1, 5), good(4, 5), good(9, 6)}, 2, windows{{From: 1, To: 5}}},
		"a run at the end":          {series{good(1, 4), good(4, 5), good(9, 5)}, 2, windows{{From: 4, To: 10}}},
		"two runs":                  {series{good(1, 4), good(2, 4), good(3, 5), good(4, 5)}, 2, windows{{From: 1, To: 3}, {From: 3, To: 5}}},
		"too short":                 {series{good(1, 5), good(4, 5), good(9, 6)}, 3, nil},
		"just long enough":          {series{good(1, 5), good(4, 5), good(9, 5)}, 3, windows{{From: 1, To: 10}}},
		"longer":                    {series{good(1, 5), good(4, 5), good(9, 5), good(11, 5)}, 3, windows{{From: 1, To: 12}}},
		"qualities do not matter":   {series{good(1, 5), uncertain(4, 5), good(9, 5)}, 3, windows{{From: 1, To: 10}}},
		"a bad sample ends a run":   {series{good(1, 0), good(2, 0), bad(3), good(4, 0), good(5, 0)}, 2, windows{{From: 1, To: 3}, {From: 4, To: 6}}},
		"a bad sample begins none":  {series{bad(1), good(2, 0), good(3, 0)}, 3, nil},
		"a run after a bad sample":  {series{bad(1), good(2, 0), good(3, 0)}, 2, windows{{From: 2, To: 4}}},
		"bad samples are not stuck": {series{bad(1), bad(2), bad(3)}, 2, nil},
		"up to the last moment":     {series{good(0, 1), good(api.End-1, 1)}, 2, windows{{From: 0, To: api.End}}},
	} {
		got, e := sample.Stuck(c.l, c.least)
		same(t, name, []any{got, e}, []any{c.want, api.OK})
	}
	all := long(api.MaxSamples, 0, 1)
	for i := range all {
		all[i].Value = 7
	}
	got, e := sample.Stuck(all, api.MaxSamples)
	same(t, "the greatest run", []any{got, e}, []any{windows{{From: 0, To: api.MaxSamples}}, api.OK})
	for _, least := range []int{1, 0, -1, api.MaxSamples + 1, math.MinInt, math.MaxInt} {
		got, e := sample.Stuck(series{good(1, 5), good(4, 5)}, least)
		same(t, fmt.Sprint("least ", least), []any{got, e}, []any{windows{}, api.ErrArg})
	}
}

func TestP12Jumps(t *testing.T) {
	for name, c := range map[string]struct {
		l    series
		rate api.Fraction
		want []int
	}{
		"no samples":                {nil, api.Fraction{Num: 1, Den: 2}, nil},
		"up, by more than the rate": {series{good(0, 0), good(10, 6)}, api.Fraction{Num: 1, Den: 2}, []int{1}},
		"as much as the rate":       {series{good(0, 0), good(10, 5)}, api.Fraction{Num: 1, Den: 2}, nil},
		"down":                      {series{good(0, 0), good(10, -6), uncertain(20, -11)}, api.Fraction{Num: 1, Den: 2}, []int{1}},
		"over bad samples":          {series{good(0, 0), good(10, 5), bad(12), good(20, 11)}, api.Fraction{Num: 1, Den: 2}, []int{3}},
		"bad samples do not jump":   {series{bad(0), good(10, 50), bad(11)}, api.Fraction{Num: 0, Den: 1}, nil},
		"from the last one on":      {series{good(0, 0), good(1, 9), good(2, 9), good(3, 0)}, api.Fraction{Num: 1, Den: 1}, []int{1, 3}},
		"any difference":            {series{good(0, 0), good(1, 0), good(api.End-1, 1)}, api.Fraction{Num: 0, Den: 1}, []int{2}},
		"the greatest products":     {series{good(0, -api.MaxValue), good(api.End-1, api.MaxValue)}, api.Fraction{Num: api.MaxFactor, Den: 1}, nil},
		"the least rate":            {series{good(0, -api.MaxValue), good(1_999_999, api.MaxValue)}, api.Fraction{Num: api.MaxFactor - 1, Den: api.MaxFactor}, []int{1}},
	} {
		got, e := sample.Jumps(c.l, c.rate)
		same(t, name, []any{got, e}, []any{c.want, api.OK})
	}
}

func TestP12JumpsErrors(t *testing.T) {
	for rate, want := range map[api.Fraction]api.Errno{
		{Num: api.MaxFactor, Den: api.MaxFactor - 1}: api.OK,
		{Num: 2, Den: 4}:                                 api.ErrForm,
		{Num: 0, Den: 2}:                                 api.ErrForm,
		{Num: 1, Den: 0}:                                 api.ErrForm,
		{Num: 1, Den: -1}:                                api.ErrForm,
		{Num: -1, Den: 2}:                                api.ErrForm,
		{Num: math.MinInt, Den: 1}:                       api.ErrForm,
		{Num: math.MaxInt, Den: math.MaxInt}:             api.ErrForm,
		{Num: 2 * api.MaxFactor, Den: 4 * api.MaxFactor}: api.ErrForm,
		{Num: api.MaxFactor + 1, Den: 1}:                 api.ErrArg,
		{Num: 1, Den: api.MaxFactor + 1}:                 api.ErrArg,
		{Num: math.MaxInt, Den: math.MaxInt - 1}:         api.ErrArg,
	} {
		got, e := sample.Jumps(series{good(0, 0)}, rate)
		same(t, fmt.Sprint("rate ", rate), []any{got, e}, []any{[]int{}, want})
	}
}

// TestP12JumpsExact compares with fractions that cannot overflow.
func TestP12JumpsExact(t *testing.T) {
	r := rand.New(rand.NewSource(3))
	for range 500 {
		rate := api.Fraction{Num: 999_983, Den: 1 + r.Intn(api.MaxFactor-20)}
		between := 1 + r.Intn(5)
		exact := big.NewRat(int64(rate.Num*between), int64(rate.Den))
		difference := int(new(big.Int).Quo(exact.Num(), exact.Denom()).Int64()) + r.Intn(2)
		l := series{good(10, 7), good(10+between, 7-min(difference, api.MaxValue))}
		var want []int
		if big.NewRat(int64(7-l[1].Value), 1).Cmp(exact) > 0 {
			want = []int{1}
		}
		got, e := sample.Jumps(l, rate)
		same(t, fmt.Sprint("Jumps of ", l, rate), []any{got, e}, []any{want, api.OK})
	}
}
