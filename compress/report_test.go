package compress_test

import (
	"fmt"
	"math/rand"
	"slices"
	"testing"

	"plantlog/api"
	"plantlog/compress"
)

func TestP21CheckException(t *testing.T) {
	for n, want := range ranges(0, 2*api.MaxValue) {
		x := api.Exception{Deadband: n, MaxGap: 1}
		same(t, fmt.Sprint("deadband ", n), compress.CheckException(x), want)
		same(t, fmt.Sprint("Report, deadband ", n), second(compress.Report(x, nil)), want)
	}
	for n, want := range ranges(1, api.MaxGapLong) {
		x := api.Exception{Deadband: 5, MaxGap: n}
		same(t, fmt.Sprint("gap ", n), compress.CheckException(x), want)
		same(t, fmt.Sprint("Report, gap ", n), second(compress.Report(x, nil)), want)
	}
}

func TestP21Report(t *testing.T) {
	exception := func(band, gap int) api.Exception { return api.Exception{Deadband: band, MaxGap: gap} }
	for name, c := range map[string]struct {
		x    api.Exception
		l    series
		want []int
	}{
		"no samples":                         {exception(2, 100), nil, nil},
		"one sample":                         {exception(2, 100), series{bad(5)}, []int{0}},
		"the first and the last one":         {exception(2, 100), series{good(0, 0), good(1, 1), good(2, 2), good(3, -2)}, []int{0, 3}},
		"by more than the deadband":          {exception(2, 100), example(), []int{0, 2, 3}},
		"down":                               {exception(2, 100), series{good(0, 0), good(1, 0), good(2, -3), good(3, -3), good(4, -5), good(5, -3)}, []int{0, 1, 2, 5}},
		"any difference":                     {exception(0, 100), series{good(0, 0), good(1, 0), good(2, 1), good(3, 1), good(4, 1)}, []int{0, 1, 2, 4}},
		"the one before is reported already": {exception(2, 100), series{good(0, 0), good(1, 3), good(2, 6), good(3, 6)}, []int{0, 1, 2, 3}},
		"after as much as the gap":           {exception(9, 2), example(), []int{0, 1, 2, 3}},
		"after less than the gap":            {exception(9, 3), series{good(0, 0), good(1, 0), good(2, 0), good(3, 0), good(4, 0), good(5, 0)}, []int{0, 2, 3, 5}},
		"a better quality":                   {exception(9, 100), series{uncertain(0, 0), uncertain(1, 0), uncertain(2, 0), good(3, 0), good(4, 0), good(5, 0)}, []int{0, 2, 3, 5}},
		"bad ones":                           {exception(9, 100), series{good(0, 0), good(1, 0), good(2, 0), bad(3), bad(4), bad(5), good(6, 0), good(7, 0), good(8, 0)}, []int{0, 2, 3, 5, 6, 8}},
		"bad ones and the gap":               {exception(0, 3), series{bad(0), bad(1), bad(2), bad(3), bad(4)}, []int{0, 2, 3, 4}},
		"measured from the one before both":  {exception(5, 100), series{good(0, 0), good(1, 4), good(2, 6), good(3, 8), good(4, 8)}, []int{0, 1, 2, 4}},
		"the gap from the one before both":   {exception(9, 10), series{good(0, 0), good(8, 0), good(10, 0), good(18, 0), good(19, 0), good(25, 0)}, []int{0, 1, 2, 4, 5}},
		"the last one alone, no exception":   {exception(9, 100), series{good(0, 0), good(1, 0), good(2, 0), good(3, 0)}, []int{0, 3}},
		"the greatest deadband":              {exception(2*api.MaxValue, 100), series{good(0, -api.MaxValue), good(1, api.MaxValue), good(2, 0)}, []int{0, 2}},
		"just above the deadband":            {exception(2*api.MaxValue-1, 100), series{good(0, -api.MaxValue), good(1, 0), good(2, api.MaxValue), good(3, 0), good(4, 0)}, []int{0, 1, 2, 4}},
	} {
		got, e := compress.Report(c.x, c.l)
		same(t, name, []any{got, e}, []any{c.want, api.OK})
	}
}

// TestP21ReportStepByStep compares with sets of reported samples, marked one after the other.
func TestP21ReportStepByStep(t *testing.T) {
	r := rand.New(rand.NewSource(4))
	for range 1000 {
		x := api.Exception{Deadband: r.Intn(5), MaxGap: 1 + r.Intn(9)}
		l := someSeries(r, 20)
		reported := make([]bool, len(l))
		for i, s := range l {
			last := -1
			for k := range i {
				if reported[k] {
					last = k
				}
			}
			if i == 0 {
				reported[i] = true
				continue
			}
			p := l[last]
			if s.Quality != p.Quality || max(s.Value-p.Value, p.Value-s.Value) > x.Deadband || s.At >= p.At+x.MaxGap {
				reported[i-1], reported[i] = true, true
			}
		}
		var want []int
		for i, is := range reported {
			if is || i == len(l)-1 {
				want = append(want, i)
			}
		}
		got, e := compress.Report(x, l)
		same(t, fmt.Sprint("Report of ", x, l), []any{got, e}, []any{want, api.OK})
	}
}

func TestP21ReportErrors(t *testing.T) {
	fine, wrong := api.Exception{Deadband: 1, MaxGap: 1}, api.Exception{Deadband: 1}
	for _, c := range []struct {
		x    api.Exception
		l    series
		want api.Errno
	}{
		{wrong, nil, api.ErrArg},
		{wrong, series{{Quality: 7}}, api.ErrArg},
		{fine, series{{Quality: 7}}, api.ErrKind},
		{fine, series{good(5, 0), good(4, 0)}, api.ErrOrder},
		{fine, make(series, api.MaxSamples+1), api.ErrLarge},
		{fine, long(api.MaxSamples), api.OK},
	} {
		l, e := compress.Report(c.x, c.l)
		same(t, fmt.Sprint(c.x, len(c.l)), e, c.want)
		if e != api.OK && len(l) > 0 {
			t.Error(l)
		}
	}
}

func TestP22Steps(t *testing.T) {
	for name, c := range map[string]struct {
		l    series
		want []int
	}{
		"no samples":         {nil, nil},
		"one sample":         {series{good(5, 5)}, []int{0}},
		"two equal ones":     {series{good(5, 5), good(6, 5)}, []int{0, 1}},
		"values":             {series{good(0, 0), good(1, 0), good(2, 1), good(3, 1), good(4, 1)}, []int{0, 2, 4}},
		"qualities":          {series{good(0, 0), good(1, 0), uncertain(2, 0), uncertain(3, 0), bad(4), bad(5), bad(6)}, []int{0, 2, 4, 6}},
		"back again":         {series{good(0, 0), good(1, 1), good(2, 0), good(3, 0), good(4, 0)}, []int{0, 1, 2, 4}},
		"the last one steps": {series{good(0, 0), good(1, 0), good(2, 1)}, []int{0, 2}},
	} {
		got, e := compress.Steps(c.l)
		same(t, name, []any{got, e}, []any{c.want, api.OK})
	}
	same(t, "a wrong series", second(compress.Steps(series{good(0, 0), good(0, 0)})), api.ErrOrder)
	same(t, "a large series", second(compress.Steps(make(series, api.MaxSamples+1))), api.ErrLarge)
	got, e := compress.Steps(long(api.MaxSamples))
	same(t, "the longest series", []any{len(got), slices.IsSorted(got), e}, []any{api.MaxSamples, true, api.OK})
}
