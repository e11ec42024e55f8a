package query_test

import (
	"fmt"
	"math"
	"math/rand"
	"testing"

	"plantlog/api"
	"plantlog/query"
)

func TestP44Total(t *testing.T) {
	counter := series{good(0, 7), uncertain(1, 9), good(2, 2), bad(3), good(4, 5), good(8, 5), good(9, 0)}
	for _, c := range []struct {
		what string
		l    series
		w    api.Window
		roll int
		want int
		e    api.Errno
	}{
		{"all", counter, window(0, api.End), 10, 2 + 3 + 3 + 0 + 5, api.OK},
		{"a greater roll", counter, window(0, api.End), 100, 2 + 93 + 3 + 0 + 95, api.OK},
		{"the greatest roll", counter, window(0, 2), api.MaxRoll, 2 + 2 + api.MaxRoll - 9, api.OK},
		{"the sample at To too", counter, window(0, 1), 10, 2, api.OK},
		{"not the one after To", counter, window(0, 3), 10, 5, api.OK},
		{"the sample at From too", counter, window(1, 2), 10, 3, api.OK},
		{"not the one before From", counter, window(2, 4), 10, 3, api.OK},
		{"one sample", counter, window(0, 0), 10, 0, api.OK},
		{"no sample", counter, window(5, 7), 10, 0, api.OK},
		{"no series", nil, window(0, 9), 1, 0, api.OK},
		{"bad alone", counter, window(3, 3), 1, 0, api.OK},
		{"equal values do not roll", counter, window(4, 8), 6, 0, api.OK},
		{"down to 0", counter, window(8, 9), 6, 1, api.OK},
		{"a roll of 1", series{good(0, 0), good(1, 0)}, window(0, 9), 1, 0, api.OK},
		{"the last moment", series{good(api.End-2, 1), good(api.End-1, 4)}, window(0, api.End), 5, 3, api.OK},
		{"a value that is the roll", counter, window(0, 9), 9, 0, api.ErrRule},
		{"a value above the roll", counter, window(0, 9), 8, 0, api.ErrRule},
		{"a value that is the roll at To", counter, window(0, 1), 9, 0, api.ErrRule},
		{"a value that is the roll after To", counter, window(2, 4), 9, 3, api.OK},
		{"one value that is the roll", counter, window(0, 0), 7, 0, api.ErrRule},
		{"a value below 0", series{good(0, 0), good(1, -1), good(2, 1)}, window(0, 9), 9, 0, api.ErrRule},
		{"a value below 0 before From", series{good(0, -1), good(1, 1), good(2, 3)}, window(1, 9), 9, 2, api.OK},
		{"roll 0", counter, window(0, 9), 0, 0, api.ErrArg},
		{"roll below 0", counter, window(0, 9), -1, 0, api.ErrArg},
		{"roll too great", counter, window(0, 9), api.MaxRoll + 1, 0, api.ErrArg},
		{"the least roll", counter, window(0, 9), math.MinInt, 0, api.ErrArg},
		{"the greatest int", counter, window(0, 9), math.MaxInt, 0, api.ErrArg},
		{"roll before the values", series{good(0, -1)}, window(0, 9), 0, 0, api.ErrArg},
	} {
		n, e := query.Total(c.l, c.w, c.roll)
		same(t, c.what, []any{n, e}, []any{c.want, c.e})
	}
}

// TestP44TotalOfManyRolls: the greatest total that there is.
func TestP44TotalOfManyRolls(t *testing.T) {
	l := make(series, api.MaxSamples)
	for i := range l {
		l[i] = good(i, (i+1)%2)
	}
	n, e := query.Total(l, window(0, api.End), api.MaxRoll)
	same(t, "total", []any{n, e}, []any{api.MaxSamples/2*(api.MaxRoll-1) + (api.MaxSamples/2 - 1), api.OK})
}

func TestP44TotalAsTheDocumentSays(t *testing.T) {
	r := rand.New(rand.NewSource(49))
	rules := 0
	for range 2000 {
		l, w, roll := someSeries(r, 30), someWindow(r, 35), 1+r.Intn(6)
		if r.Intn(4) > 0 {
			for i, x := range l {
				l[i].Value = max(x.Value, 0)
			}
		}
		var used []int
		for _, x := range l {
			if w.From <= x.At && x.At <= w.To && x.Quality != api.Bad {
				used = append(used, x.Value)
			}
		}
		want, wantE := 0, api.OK
		for i, n := range used {
			if n < 0 || n >= roll {
				want, wantE = 0, api.ErrRule
				rules++
				break
			}
			if i > 0 {
				want += (n - used[i-1] + roll) % roll // the values are below roll
			}
		}
		n, e := query.Total(l, w, roll)
		same(t, fmt.Sprint(l, w, roll), []any{n, e}, []any{want, wantE})
	}
	if rules < 200 || rules > 1500 {
		t.Errorf("%d of 2000 have no total", rules)
	}
}

func TestP44Count(t *testing.T) {
	l := mixed()
	for _, c := range []struct {
		w    api.Window
		want [3]int
	}{
		{window(0, api.End), [3]int{3, 3, 2}},
		{window(10, 95), [3]int{3, 2, 2}},
		{window(11, 96), [3]int{2, 3, 2}},
		{window(30, 31), [3]int{0, 0, 1}},
		{window(29, 30), [3]int{0, 0, 0}},
		{window(30, 30), [3]int{0, 0, 0}},
		{window(200, api.End), [3]int{0, 0, 0}},
	} {
		for quality, want := range c.want {
			n, e := query.Count(l, c.w, quality)
			same(t, fmt.Sprint(c.w, quality), []any{n, e}, []any{want, api.OK})
		}
	}
	for _, quality := range []int{-1, 3, math.MinInt, math.MaxInt} {
		for _, l := range []series{nil, l} {
			n, e := query.Count(l, window(0, 100), quality)
			same(t, fmt.Sprint("quality ", quality), []any{n, e}, []any{0, api.ErrKind})
		}
	}
	n, e := query.Count(long(api.MaxSamples), window(0, api.End), api.Good)
	same(t, "the longest series", []any{n, e}, []any{api.MaxSamples, api.OK})
}
