package compress_test

import (
	"fmt"
	"math/rand"
	"slices"
	"testing"

	"plantlog/api"
	"plantlog/compress"
)

// fits is what the document says of kept samples that fit, each condition over all samples.
func fits(d api.Door, l series, kept []int) bool {
	samples, _ := compress.Keep(l, kept)
	isKept := func(i int) bool { return slices.Contains(kept, i) }
	for i, x := range l {
		if (i == 0 || i == len(l)-1) && !isKept(i) {
			return false
		}
		if i > 0 && l[i-1].Quality != x.Quality && !(isKept(i-1) && isKept(i)) {
			return false
		}
		value, ok := exact(samples, x.At)
		if x.Quality != api.Bad && (!ok || off(x.Value, value).Cmp(fraction(d.Deviation, 1)) > 0) {
			return false
		}
	}
	for i := 1; i < len(kept); i++ {
		a, b := kept[i-1], kept[i]
		if b > a+1 && l[b].At-l[a].At > d.MaxGap {
			return false
		}
	}
	return true
}

// eachKept calls visit for all lists of indices below n: fewer ones first, and in the order of their indices.
func eachKept(n int, visit func(kept []int) bool) {
	var extend func(kept []int, from, more int) bool
	extend = func(kept []int, from, more int) bool {
		if more == 0 {
			return visit(kept)
		}
		for i := from; i < n; i++ {
			if !extend(append(slices.Clone(kept), i), i+1, more-1) {
				return false
			}
		}
		return true
	}
	for many := 0; many <= n && extend(nil, 0, many); many++ {
	}
}

func TestP22Fits(t *testing.T) {
	door := api.Door{Deviation: 1, MaxGap: 5}
	for name, c := range map[string]struct {
		l    series
		kept []int
		want bool
	}{
		"nothing":                      {nil, nil, true},
		"none kept":                    {series{good(0, 0)}, nil, false},
		"one sample":                   {series{good(0, 0)}, []int{0}, true},
		"one bad sample":               {series{bad(0)}, []int{0}, true},
		"all kept":                     {example(), []int{0, 1, 2, 3}, true},
		"the first one alone":          {example(), []int{0}, false},
		"the last one alone":           {example(), []int{3}, false},
		"without the first one":        {example(), []int{1, 2, 3}, false},
		"without the last one":         {example(), []int{0, 1, 2}, false},
		"off by the deviation":         {series{good(0, 0), good(1, 1), good(2, 0)}, []int{0, 2}, true},
		"off by more":                  {series{good(0, 0), good(1, 2), good(2, 0)}, []int{0, 2}, false},
		"off by 4/3":                   {example(), []int{0, 3}, false},
		"off by 1":                     {example(), []int{0, 1, 3}, true},
		"as long as the gap":           {series{good(0, 0), good(1, 0), good(5, 0)}, []int{0, 2}, true},
		"longer than the gap":          {series{good(0, 0), good(1, 0), good(6, 0)}, []int{0, 2}, false},
		"next to each other, far":      {series{good(0, 0), good(6, 9)}, []int{0, 1}, true},
		"two qualities":                {series{good(0, 0), uncertain(1, 0)}, []int{0, 1}, true},
		"two qualities, not the first": {series{good(0, 0), good(1, 0), uncertain(2, 0)}, []int{0, 2}, false},
		"two qualities, not the later": {series{good(0, 0), uncertain(1, 0), uncertain(2, 0)}, []int{0, 2}, false},
		"two qualities, both":          {series{good(0, 0), good(1, 0), uncertain(2, 0), uncertain(3, 0)}, []int{0, 1, 2, 3}, true},
		"another one in between":       {series{good(0, 0), uncertain(1, 0), good(2, 0)}, []int{0, 2}, false},
		"a bad one in between":         {series{good(0, 0), bad(1), good(2, 0)}, []int{0, 2}, false},
		"a bad one, kept":              {series{good(0, 0), bad(1), good(2, 0)}, []int{0, 1, 2}, true},
		"bad ones":                     {series{bad(0), bad(1), bad(2), bad(3)}, []int{0, 3}, true},
		"bad ones over the gap":        {series{bad(0), bad(1), bad(6)}, []int{0, 2}, false},
	} {
		got, e := compress.Fits(door, c.l, c.kept)
		same(t, name, []any{got, e}, []any{c.want, api.OK})
		same(t, name+", condition by condition", fits(door, c.l, c.kept), c.want)
	}
}

func TestP22FitsEachCondition(t *testing.T) {
	r := rand.New(rand.NewSource(8))
	count := 0
	check := func(d api.Door, l series, kept []int) {
		t.Helper()
		got, e := compress.Fits(d, l, kept)
		same(t, fmt.Sprint("Fits of ", d, l, kept), []any{got, e}, []any{fits(d, l, kept), api.OK})
		if got {
			count++
		}
	}
	for range 200 {
		d, l := api.Door{Deviation: r.Intn(5), MaxGap: 1 + r.Intn(9)}, someSeries(r, 8)
		eachKept(len(l), func(kept []int) bool {
			check(d, l, kept)
			return true
		})
	}
	for range 300 {
		d := api.Door{Deviation: 1 + r.Intn(api.MaxValue/4), MaxGap: api.MaxGapLong}
		l := wideSeries(r, 12, d.Deviation)
		for range 5 {
			kept := []int{0}
			for _, k := range someKept(r, 10) {
				kept = append(kept, k+1)
			}
			check(d, l, append(kept, 11))
		}
	}
	if count == 0 {
		t.Error("nothing fits")
	}
}

func TestP22Minimum(t *testing.T) {
	door := api.Door{Deviation: 1, MaxGap: 5}
	for name, c := range map[string]struct {
		l    series
		want []int
	}{
		"nothing":                     {nil, nil},
		"one sample":                  {series{good(0, 0)}, []int{0}},
		"two samples":                 {series{good(0, 0), good(9, 9)}, []int{0, 1}},
		"the example":                 {example(), []int{0, 1, 3}},
		"a straight line":             {series{good(0, 0), good(1, 1), good(2, 2), good(5, 5)}, []int{0, 3}},
		"the gap":                     {series{good(0, 0), good(1, 0), good(2, 0), good(3, 0), good(6, 0)}, []int{0, 1, 4}},
		"less than one after another": {series{good(0, 0), good(1, 0), good(2, 1), good(3, 3), good(4, 5)}, []int{0, 1, 4}},
		"qualities":                   {series{good(0, 0), good(1, 0), good(2, 0), bad(3), bad(4), bad(5), uncertain(6, 0)}, []int{0, 2, 3, 5, 6}},
		"bad ones over the gap":       {series{bad(0), bad(2), bad(4), bad(6), bad(8)}, []int{0, 2, 4}},
	} {
		got, e := compress.Minimum(door, c.l)
		same(t, name, []any{got, e}, []any{c.want, api.OK})
	}
}

// TestP22MinimumOfAll compares with the first one that fits of all lists of indices.
func TestP22MinimumOfAll(t *testing.T) {
	r := rand.New(rand.NewSource(9))
	fewer := 0
	check := func(d api.Door, l series) {
		t.Helper()
		var want []int
		eachKept(len(l), func(kept []int) bool {
			want = kept
			return !fits(d, l, kept)
		})
		got, e := compress.Minimum(d, l)
		same(t, fmt.Sprint("Minimum of ", d, l), []any{got, e}, []any{want, api.OK})
		if kept, _ := compress.Compress(d, l); len(got) < len(kept) {
			fewer++
		} else if len(got) > len(kept) {
			t.Errorf("%v, but Compress keeps %v", got, kept)
		}
	}
	for range 400 {
		check(api.Door{Deviation: r.Intn(4), MaxGap: 1 + r.Intn(12)}, someSeries(r, 10))
	}
	for range 60 {
		d := api.Door{Deviation: 1 + r.Intn(api.MaxValue/4), MaxGap: api.MaxGapLong}
		check(d, wideSeries(r, 8, d.Deviation))
		d.MaxGap /= 100
		l := wideSeries(r, 8, d.Deviation)
		for i := range l {
			l[i].At /= 1 + api.End/api.MaxGapLong*100
		}
		check(d, l)
	}
	if fewer == 0 {
		t.Error("Minimum never needs fewer than Compress")
	}
}

func TestP22MinimumSize(t *testing.T) {
	d := api.Door{Deviation: 1, MaxGap: api.MaxGapLong}
	got, e := compress.Minimum(d, long(api.MaxOptimal))
	same(t, "the longest series", []any{got, e}, []any{[]int{0, api.MaxOptimal - 1}, api.OK})
	got, e = compress.Minimum(d, long(api.MaxOptimal+1))
	same(t, "a longer one", []any{got, e}, []any{[]int{}, api.ErrLarge})
	l := long(api.MaxOptimal + 1)
	l[api.MaxOptimal].At = 0
	same(t, "its own error first", second(compress.Minimum(d, l)), api.ErrOrder)
	same(t, "the door first", second(compress.Minimum(api.Door{}, l)), api.ErrArg)
}
