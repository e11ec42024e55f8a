package sample_test

import (
	"cmp"
	"fmt"
	"maps"
	"math"
	"math/rand"
	"slices"
	"strings"
	"testing"

	"plantlog/api"
	"plantlog/sample"
)

type fixes = []api.Fix

func set(by string, no, made int, x api.Sample) api.Fix {
	return api.Fix{By: by, No: no, Made: made, Kind: api.FixSet, Sample: x}
}

func remove(by string, no, made, at int) api.Fix {
	return api.Fix{By: by, No: no, Made: made, Kind: api.FixDelete, At: at}
}

func mark(by string, no, made, from, to, quality int) api.Fix {
	return api.Fix{By: by, No: no, Made: made, Kind: api.FixMark, Time: api.Window{From: from, To: to}, Quality: quality}
}

// manyFixes returns n valid fixes by somebody, numbered from 1 on.
func manyFixes(by string, n int) fixes {
	f := make(fixes, n)
	for i := range f {
		f[i] = set(by, i+1, i, good(i, i))
	}
	return f
}

// someFixes returns valid fixes of moments below end, made before or at the moment made.
func someFixes(r *rand.Rand, by string, n, made, end int) fixes {
	f := make(fixes, n)
	for i := range f {
		at, to := r.Intn(end), 1+r.Intn(end)
		f[i] = []api.Fix{
			set(by, i+1, r.Intn(made+1), good(at, r.Intn(9))),
			set(by, i+1, r.Intn(made+1), bad(at)),
			remove(by, i+1, r.Intn(made+1), at),
			mark(by, i+1, r.Intn(made+1), r.Intn(to), to, r.Intn(3)),
			mark(by, i+1, r.Intn(made+1), r.Intn(to), to, api.Uncertain),
		}[r.Intn(5)]
	}
	slices.SortFunc(f, func(x, y api.Fix) int {
		return cmp.Or(cmp.Compare(x.Made, y.Made), cmp.Compare(x.By, y.By), cmp.Compare(x.No, y.No))
	})
	return f
}

func TestP14CheckFixes(t *testing.T) {
	wrong := func(x api.Fix, change func(x *api.Fix)) fixes {
		change(&x)
		return fixes{x}
	}
	s, d, m := set("ann", 1, 5, good(20, 8)), remove("ann", 1, 5, 20), mark("ann", 1, 5, 0, 15, api.Bad)
	for name, c := range map[string]struct {
		f    fixes
		want api.Errno
	}{
		"none":                       {nil, api.OK},
		"a set":                      {fixes{s}, api.OK},
		"a delete":                   {fixes{d}, api.OK},
		"a mark":                     {fixes{m}, api.OK},
		"a mark of all":              {fixes{mark("b", api.MaxFactor, api.End-1, 0, api.End, api.Good)}, api.OK},
		"a mark of one moment":       {fixes{mark("b", 1, 0, api.End-1, api.End, api.Good)}, api.OK},
		"all zero":                   {fixes{{}}, api.ErrName},
		"no key":                     {wrong(s, func(x *api.Fix) { x.By = "Ann" }), api.ErrName},
		"a long name":                {wrong(s, func(x *api.Fix) { x.By = strings.Repeat("a", api.MaxName+1) }), api.ErrName},
		"No 0":                       {wrong(s, func(x *api.Fix) { x.No = 0 }), api.ErrArg},
		"No too great":               {wrong(s, func(x *api.Fix) { x.No = api.MaxFactor + 1 }), api.ErrArg},
		"Made below 0":               {wrong(s, func(x *api.Fix) { x.Made = -1 }), api.ErrArg},
		"Made at End":                {wrong(s, func(x *api.Fix) { x.Made = api.End }), api.ErrArg},
		"kind 0":                     {wrong(s, func(x *api.Fix) { x.Kind = 0 }), api.ErrKind},
		"kind 4":                     {wrong(s, func(x *api.Fix) { x.Kind = 4 }), api.ErrKind},
		"a kind below 0":             {wrong(s, func(x *api.Fix) { x.Kind = math.MinInt }), api.ErrKind},
		"a set of no moment":         {fixes{set("ann", 1, 5, good(-1, 8))}, api.ErrArg},
		"a set of no quality":        {fixes{set("ann", 1, 5, api.Sample{Quality: 3})}, api.ErrKind},
		"a set of a great value":     {fixes{set("ann", 1, 5, good(1, math.MaxInt))}, api.ErrArg},
		"a set of a bad value":       {fixes{set("ann", 1, 5, api.Sample{Value: 1, Quality: api.Bad})}, api.ErrForm},
		"a delete below 0":           {fixes{remove("ann", 1, 5, -1)}, api.ErrArg},
		"a delete at End":            {fixes{remove("ann", 1, 5, api.End)}, api.ErrArg},
		"an empty mark":              {fixes{mark("ann", 1, 5, 7, 7, api.Good)}, api.ErrArg},
		"a mark turned round":        {fixes{mark("ann", 1, 5, 8, 7, api.Good)}, api.ErrArg},
		"a mark from below 0":        {fixes{mark("ann", 1, 5, -1, 7, api.Good)}, api.ErrArg},
		"a mark beyond End":          {fixes{mark("ann", 1, 5, 0, api.End+1, api.Good)}, api.ErrArg},
		"a mark at End":              {fixes{mark("ann", 1, 5, api.End, api.End, api.Good)}, api.ErrArg},
		"a mark up to the least int": {fixes{mark("ann", 1, 5, 0, math.MinInt, api.Good)}, api.ErrArg},
		"a mark of no quality":       {fixes{mark("ann", 1, 5, 0, 7, 3)}, api.ErrKind},
		"a mark of quality below 0":  {fixes{mark("ann", 1, 5, 0, 7, -1)}, api.ErrKind},
		"falling Made":               {fixes{set("ann", 1, 5, good(1, 1)), set("ann", 2, 4, good(1, 1))}, api.ErrOrder},
		"falling By":                 {fixes{set("bob", 1, 5, good(1, 1)), set("ann", 2, 5, good(1, 1))}, api.ErrOrder},
		"falling No":                 {fixes{set("ann", 2, 5, good(1, 1)), set("ann", 1, 5, good(1, 1))}, api.ErrOrder},
		"one fix twice":              {fixes{s, s}, api.ErrOrder},
		"Made before By and No":      {fixes{set("bob", 9, 5, good(1, 1)), set("ann", 1, 6, good(1, 1))}, api.OK},
		"By before No":               {fixes{set("ann", 9, 5, good(1, 1)), set("bob", 1, 5, good(1, 1))}, api.OK},
		"No last":                    {fixes{set("ann", 1, 5, good(1, 1)), set("ann", 2, 5, good(1, 1))}, api.OK},
		"By and No twice":            {fixes{set("ann", 1, 5, good(1, 1)), set("bob", 1, 5, good(1, 1)), set("ann", 1, 6, good(1, 1))}, api.ErrTwice},
		"most":                       {manyFixes("ann", api.MaxFixes), api.OK},
		"too many":                   {manyFixes("ann", api.MaxFixes+1), api.ErrLarge},
	} {
		same(t, name, sample.CheckFixes(c.f), c.want)
	}
}

func TestP14UnusedFields(t *testing.T) {
	s, d, m := set("ann", 1, 5, good(20, 8)), remove("ann", 1, 5, 20), mark("ann", 1, 5, 0, 15, api.Bad)
	for name, c := range map[string]struct {
		x      api.Fix
		change func(x *api.Fix)
	}{
		"At of a set":               {s, func(x *api.Fix) { x.At = 1 }},
		"Time.From of a set":        {s, func(x *api.Fix) { x.Time.From = 1 }},
		"Time.To of a set":          {s, func(x *api.Fix) { x.Time.To = 1 }},
		"Quality of a set":          {s, func(x *api.Fix) { x.Quality = api.Bad }},
		"Sample.At of a delete":     {d, func(x *api.Fix) { x.Sample.At = 1 }},
		"Sample.Value of a delete":  {d, func(x *api.Fix) { x.Sample.Value = -1 }},
		"Sample.Quality of delete":  {d, func(x *api.Fix) { x.Sample.Quality = 1 }},
		"Time of a delete":          {d, func(x *api.Fix) { x.Time = api.Window{From: 1, To: 2} }},
		"Quality of a delete":       {d, func(x *api.Fix) { x.Quality = -1 }},
		"Sample of a mark":          {m, func(x *api.Fix) { x.Sample = good(0, 1) }},
		"At of a mark":              {m, func(x *api.Fix) { x.At = math.MinInt }},
		"Sample.Quality of a mark":  {m, func(x *api.Fix) { x.Sample.Quality = 9 }},
		"At of a set, the same one": {s, func(x *api.Fix) { x.At = x.Sample.At }},
	} {
		same(t, name+", 0", sample.CheckFixes(fixes{c.x}), api.OK)
		c.change(&c.x)
		same(t, name, sample.CheckFixes(fixes{c.x}), api.ErrForm)
	}
}

func TestP14MergeFixes(t *testing.T) {
	a1, a2, b1 := set("ann", 1, 5, good(20, 8)), remove("ann", 2, 7, 20), mark("bob", 1, 6, 0, 15, api.Bad)
	for name, c := range map[string]struct{ a, b, want fixes }{
		"none":        {nil, nil, nil},
		"one empty":   {fixes{a1, a2}, nil, fixes{a1, a2}},
		"apart":       {fixes{a1, a2}, fixes{b1}, fixes{a1, b1, a2}},
		"overlapping": {fixes{a1, b1}, fixes{b1, a2}, fixes{a1, b1, a2}},
		"equal":       {fixes{a1, b1, a2}, fixes{a1, b1, a2}, fixes{a1, b1, a2}},
	} {
		got, e := sample.MergeFixes(c.a, c.b)
		same(t, name, []any{got, e}, []any{c.want, api.OK})
		got, e = sample.MergeFixes(c.b, c.a)
		same(t, name+", turned round", []any{got, e}, []any{c.want, api.OK})
	}
}

func TestP14MergeFixesErrors(t *testing.T) {
	a := set("ann", 1, 5, good(20, 8))
	otherMade, otherValue := a, a
	otherMade.Made = 9
	otherValue.Sample.Value = 9
	most := manyFixes("ann", api.MaxFixes)
	for name, c := range map[string]struct {
		a, b fixes
		want api.Errno
	}{
		"the first list":              {fixes{a, a}, nil, api.ErrOrder},
		"the second list":             {nil, fixes{a, a}, api.ErrOrder},
		"the first list first":        {fixes{{}}, fixes{a, a}, api.ErrName},
		"another moment":              {fixes{a}, fixes{otherMade}, api.ErrConflict},
		"another sample":              {fixes{a}, fixes{otherValue}, api.ErrConflict},
		"another kind":                {fixes{a}, fixes{remove("ann", 1, 5, 20)}, api.ErrConflict},
		"somebody else's number":      {fixes{a}, fixes{set("bob", 1, 9, good(20, 9))}, api.OK},
		"another number":              {fixes{a}, fixes{set("ann", 2, 9, good(20, 9))}, api.OK},
		"the same most ones":          {most, most, api.OK},
		"too many":                    {most, fixes{set("bob", 1, 0, good(0, 0))}, api.ErrLarge},
		"too many, and in a conflict": {most, fixes{set("ann", 1, 3, good(0, 0)), set("bob", 1, 4, good(0, 0))}, api.ErrConflict},
	} {
		got, e := sample.MergeFixes(c.a, c.b)
		same(t, name, e, c.want)
		if e != api.OK {
			same(t, name+", the list", got, fixes{})
		}
	}
	half := api.MaxFixes / 2
	got, e := sample.MergeFixes(manyFixes("ann", half), manyFixes("bob", half))
	same(t, "as many as there may be", []any{len(got), e}, []any{api.MaxFixes, api.OK})
	same(t, "in order", sample.CheckFixes(got), api.OK)
}

func TestP14MergeFixesDoesNotDependOnTheOrder(t *testing.T) {
	r := rand.New(rand.NewSource(5))
	merge := func(a, b fixes) fixes {
		f, e := sample.MergeFixes(a, b)
		same(t, "merge", e, api.OK)
		same(t, "the merged list", sample.CheckFixes(f), api.OK)
		return f
	}
	for range 200 {
		a, b, c := someFixes(r, "ann", 5, 4, 9), someFixes(r, "bob", 5, 4, 9), someFixes(r, "cyd", 5, 4, 9)
		same(t, "a and b", merge(a, b), merge(b, a))
		same(t, "a, b and c", merge(merge(a, b), c), merge(merge(c, a), merge(b, a)))
	}
}

func TestP14Fixed(t *testing.T) {
	l := series{good(10, 5), uncertain(20, 6), bad(30)}
	for name, c := range map[string]struct {
		f    fixes
		at   int
		want series
	}{
		"no fixes":                          {nil, 9, l},
		"replaced":                          {fixes{set("a", 1, 9, good(20, 8))}, 9, series{good(10, 5), good(20, 8), bad(30)}},
		"made later":                        {fixes{set("a", 1, 9, good(20, 8))}, 8, l},
		"added first, between and last":     {fixes{set("a", 1, 9, good(5, 1)), set("a", 2, 9, good(15, 2)), set("a", 3, 9, bad(40))}, 9, series{good(5, 1), good(10, 5), good(15, 2), uncertain(20, 6), bad(30), bad(40)}},
		"a bad sample replaced":             {fixes{set("a", 1, 9, good(30, 8))}, 9, series{good(10, 5), uncertain(20, 6), good(30, 8)}},
		"deleted":                           {fixes{remove("a", 1, 9, 10)}, 9, l[1:]},
		"nothing to delete":                 {fixes{remove("a", 1, 9, 11)}, 9, l},
		"marked bad":                        {fixes{mark("a", 1, 9, 0, 100, api.Bad)}, 9, series{bad(10), bad(20), bad(30)}},
		"marked good":                       {fixes{mark("a", 1, 9, 0, 100, api.Good)}, 9, series{good(10, 5), good(20, 6), bad(30)}},
		"marked uncertain":                  {fixes{mark("a", 1, 9, 0, 100, api.Uncertain)}, 9, series{uncertain(10, 5), uncertain(20, 6), bad(30)}},
		"marked from the first moment on":   {fixes{mark("a", 1, 9, 20, 21, api.Good)}, 9, series{good(10, 5), good(20, 6), bad(30)}},
		"marked before the last moment":     {fixes{mark("a", 1, 9, 10, 20, api.Bad)}, 9, series{bad(10), uncertain(20, 6), bad(30)}},
		"marked bad, then good":             {fixes{mark("a", 1, 8, 0, 15, api.Bad), mark("a", 2, 9, 0, 25, api.Good)}, 9, series{bad(10), good(20, 6), bad(30)}},
		"set, then deleted":                 {fixes{set("a", 1, 8, good(20, 8)), remove("a", 2, 9, 20)}, 9, series{good(10, 5), bad(30)}},
		"deleted, then set":                 {fixes{remove("a", 2, 8, 20), set("a", 1, 9, good(20, 8))}, 9, series{good(10, 5), good(20, 8), bad(30)}},
		"marked, then set":                  {fixes{mark("a", 1, 8, 0, 100, api.Bad), set("a", 2, 9, good(20, 8))}, 9, series{bad(10), good(20, 8), bad(30)}},
		"set, then marked":                  {fixes{set("a", 1, 8, good(15, 8)), mark("a", 2, 9, 0, 100, api.Uncertain)}, 9, series{uncertain(10, 5), uncertain(15, 8), uncertain(20, 6), bad(30)}},
		"of one moment, the later By":       {fixes{set("a", 2, 9, good(10, 1)), set("b", 1, 9, good(10, 2))}, 9, series{good(10, 2), uncertain(20, 6), bad(30)}},
		"the last moment set":               {fixes{set("a", 1, 9, good(api.End-1, 1))}, 9, append(slices.Clone(l), good(api.End-1, 1))},
		"the last moment of all, and marks": {fixes{mark("a", 1, api.End-1, 0, api.End, api.Bad)}, api.End - 1, series{bad(10), bad(20), bad(30)}},
	} {
		got, e := sample.Fixed(l, c.f, c.at)
		same(t, name, []any{got, e}, []any{c.want, api.OK})
	}
	got, e := sample.Fixed(nil, fixes{set("a", 1, 9, good(1, 1))}, 9)
	same(t, "no samples", []any{got, e}, []any{series{good(1, 1)}, api.OK})
}

// TestP14FixedByMoments compares with a table of moments to which the fixes are applied.
func TestP14FixedByMoments(t *testing.T) {
	r := rand.New(rand.NewSource(6))
	for range 300 {
		l, f, at := someSeries(r, 12), someFixes(r, "ann", 8, 6, 12), r.Intn(7)
		table := map[int]api.Sample{}
		for _, x := range l {
			table[x.At] = x
		}
		for _, x := range f {
			switch {
			case x.Made > at:
			case x.Kind == api.FixSet:
				table[x.Sample.At] = x.Sample
			case x.Kind == api.FixDelete:
				delete(table, x.At)
			default:
				for i := x.Time.From; i < x.Time.To; i++ {
					if s, ok := table[i]; ok && s.Quality != api.Bad {
						if s.Quality = x.Quality; s.Quality == api.Bad {
							s.Value = 0
						}
						table[i] = s
					}
				}
			}
		}
		var want series
		for _, i := range slices.Sorted(maps.Keys(table)) {
			want = append(want, table[i])
		}
		got, e := sample.Fixed(l, f, at)
		same(t, fmt.Sprint("Fixed of ", l, f, at), []any{got, e}, []any{want, api.OK})
		same(t, "the corrected series", sample.CheckSeries(got), api.OK)
	}
}

func TestP14FixedErrors(t *testing.T) {
	most := long(api.MaxSamples, 0, 1)
	added := set("a", 1, 5, good(api.MaxSamples, 1))
	fine := series{good(1, 1)}
	for name, c := range map[string]struct {
		l    series
		f    fixes
		at   int
		want api.Errno
	}{
		"the series before the fixes": {series{good(1, 1), good(1, 1)}, fixes{{}}, -1, api.ErrOrder},
		"the fixes before the moment": {fine, fixes{{}}, -1, api.ErrName},
		"fixes made later":            {fine, fixes{added, added}, 1, api.ErrOrder},
		"a moment below 0":            {fine, nil, -1, api.ErrArg},
		"a moment at End":             {fine, nil, api.End, api.ErrArg},
		"the greatest int":            {fine, nil, math.MaxInt, api.ErrArg},
		"the moment before the size":  {most, fixes{added}, api.End, api.ErrArg},
		"too many samples":            {most, fixes{added}, 5, api.ErrLarge},
		"not too many yet":            {most, fixes{added}, 4, api.OK},
		"one in place of another":     {most, fixes{set("a", 1, 5, good(7, 1))}, 5, api.OK},
		"too many only in between":    {most, fixes{added, remove("a", 2, 5, 7)}, 5, api.OK},
	} {
		got, e := sample.Fixed(c.l, c.f, c.at)
		same(t, name, e, c.want)
		if e != api.OK {
			same(t, name+", the series", got, series{})
		}
	}
}

func TestP14Overridden(t *testing.T) {
	for name, c := range map[string]struct {
		f    fixes
		at   int
		want []int
	}{
		"none":                              {nil, 9, nil},
		"a set by a delete":                 {fixes{set("a", 1, 1, good(20, 8)), remove("a", 2, 2, 20)}, 9, []int{0}},
		"a set by a set":                    {fixes{set("a", 1, 1, good(20, 8)), set("a", 2, 2, good(20, 8))}, 9, []int{0}},
		"a delete by a set":                 {fixes{remove("a", 1, 1, 20), set("a", 2, 2, good(20, 8))}, 9, []int{0}},
		"a delete by a delete":              {fixes{remove("a", 1, 1, 20), remove("a", 2, 2, 20)}, 9, []int{0}},
		"of other moments":                  {fixes{set("a", 1, 1, good(20, 8)), remove("a", 2, 2, 21), set("a", 3, 3, good(0, 1))}, 9, nil},
		"by a later one only":               {fixes{set("a", 1, 1, good(20, 8)), remove("a", 2, 2, 20)}, 1, nil},
		"up to the moment":                  {fixes{set("a", 1, 1, good(20, 8)), remove("a", 2, 2, 20)}, 2, []int{0}},
		"three":                             {fixes{set("a", 1, 1, good(20, 8)), remove("a", 2, 2, 20), set("a", 3, 3, bad(20))}, 9, []int{0, 1}},
		"a set not by a mark":               {fixes{set("a", 1, 1, good(20, 8)), mark("a", 2, 2, 0, 100, api.Bad)}, 9, nil},
		"a delete at 0 and a mark":          {fixes{remove("a", 1, 1, 0), mark("a", 2, 2, 0, 100, api.Bad)}, 9, nil},
		"a mark by the same mark":           {fixes{mark("a", 1, 1, 5, 10, api.Uncertain), mark("a", 2, 2, 5, 10, api.Uncertain)}, 9, []int{0}},
		"a mark by a worse and longer one":  {fixes{mark("a", 1, 1, 5, 10, api.Good), mark("a", 2, 2, 0, 11, api.Bad)}, 9, []int{0}},
		"a mark not by a better one":        {fixes{mark("a", 1, 1, 5, 10, api.Bad), mark("a", 2, 2, 0, 11, api.Uncertain)}, 9, nil},
		"a mark not by a later beginning":   {fixes{mark("a", 1, 1, 5, 10, api.Bad), mark("a", 2, 2, 6, 11, api.Bad)}, 9, nil},
		"a mark not by an earlier end":      {fixes{mark("a", 1, 1, 5, 10, api.Bad), mark("a", 2, 2, 5, 9, api.Bad)}, 9, nil},
		"a mark not by two together":        {fixes{mark("a", 1, 1, 5, 10, api.Bad), mark("a", 2, 2, 5, 8, api.Bad), mark("a", 3, 3, 8, 10, api.Bad)}, 9, nil},
		"a mark not by a set":               {fixes{mark("a", 1, 1, 5, 6, api.Bad), set("a", 2, 2, good(5, 1))}, 9, nil},
		"a set between, in its time":        {fixes{mark("a", 1, 1, 5, 10, api.Bad), set("a", 2, 2, good(5, 1)), mark("a", 3, 3, 5, 10, api.Bad)}, 9, nil},
		"a set between, in its last moment": {fixes{mark("a", 1, 1, 5, 10, api.Bad), set("a", 2, 2, good(9, 1)), mark("a", 3, 3, 5, 10, api.Bad)}, 9, nil},
		"a set between, after its time":     {fixes{mark("a", 1, 1, 5, 10, api.Bad), set("a", 2, 2, good(10, 1)), mark("a", 3, 3, 0, 20, api.Bad)}, 9, []int{0}},
		"a set between, before its time":    {fixes{mark("a", 1, 1, 5, 10, api.Bad), set("a", 2, 2, good(4, 1)), mark("a", 3, 3, 0, 20, api.Bad)}, 9, []int{0}},
		"a delete between":                  {fixes{mark("a", 1, 1, 5, 10, api.Bad), remove("a", 2, 2, 7), mark("a", 3, 3, 5, 10, api.Bad)}, 9, []int{0}},
		"a set after the later mark":        {fixes{mark("a", 1, 1, 5, 10, api.Bad), mark("a", 2, 2, 5, 10, api.Bad), set("a", 3, 3, good(7, 1))}, 9, []int{0}},
		"a set before both":                 {fixes{set("a", 1, 1, good(7, 1)), mark("a", 2, 2, 5, 10, api.Bad), mark("a", 3, 3, 5, 10, api.Bad)}, 9, []int{1}},
		"a better mark between":             {fixes{mark("a", 1, 1, 5, 10, api.Uncertain), mark("a", 2, 2, 5, 10, api.Good), mark("a", 3, 3, 5, 10, api.Bad)}, 9, []int{0, 1}},
	} {
		got, e := sample.Overridden(c.f, c.at)
		same(t, name, []any{got, e}, []any{c.want, api.OK})
	}
	for at, want := range map[int]api.Errno{-1: api.ErrArg, api.End: api.ErrArg, math.MinInt: api.ErrArg} {
		got, e := sample.Overridden(fixes{remove("a", 1, 1, 20), remove("a", 2, 2, 20)}, at)
		same(t, fmt.Sprint("at ", at), []any{got, e}, []any{[]int{}, want})
	}
	got, e := sample.Overridden(fixes{{}}, -1)
	same(t, "the fixes before the moment", []any{got, e}, []any{[]int{}, api.ErrName})
}

// TestP14OverriddenCanBeLeftOut: the corrected series is the same without them, whatever the series is.
func TestP14OverriddenCanBeLeftOut(t *testing.T) {
	r := rand.New(rand.NewSource(7))
	left := 0
	for range 500 {
		f, at := someFixes(r, "ann", 10, 6, 8), r.Intn(7)
		overridden, e := sample.Overridden(f, at)
		same(t, "Overridden", e, api.OK)
		left += len(overridden)
		var rest fixes
		for i, x := range f {
			if !slices.Contains(overridden, i) {
				rest = append(rest, x)
			}
		}
		l := someSeries(r, 8)
		all, _ := sample.Fixed(l, f, at)
		fewer, e := sample.Fixed(l, rest, at)
		same(t, fmt.Sprint("without ", overridden, " of ", f), []any{fewer, e}, []any{all, api.OK})
	}
	if left == 0 {
		t.Error("no fix is overridden")
	}
}

func TestP14Changes(t *testing.T) {
	l := series{good(10, 5), good(20, 6), bad(30)}
	f := fixes{
		set("a", 1, 5, good(20, 8)),
		mark("a", 2, 6, 0, 15, api.Uncertain),
		remove("a", 3, 7, 20),
		set("a", 4, 8, good(40, 1)),
		set("a", 5, 9, good(20, 6)),
		mark("a", 6, 10, 25, 35, api.Good),
	}
	for c, want := range map[[2]int][]int{
		{0, 0}:           nil,
		{0, 4}:           nil,
		{0, 5}:           {20},
		{5, 6}:           {10},
		{5, 7}:           {10, 20},
		{7, 5}:           {10, 20},
		{6, 8}:           {20, 40},
		{4, 9}:           {10, 40},
		{9, 10}:          nil,
		{api.End - 1, 8}: {20},
		{0, api.End - 1}: {10, 40},
	} {
		got, e := sample.Changes(l, f, c[0], c[1])
		same(t, fmt.Sprint("Changes ", c), []any{got, e}, []any{want, api.OK})
	}
	got, e := sample.Changes(nil, fixes{set("a", 1, 5, good(20, 8))}, 0, 5)
	same(t, "no samples", []any{got, e}, []any{[]int{20}, api.OK})
}

func TestP14ChangesErrors(t *testing.T) {
	most, fine := long(api.MaxSamples, 0, 1), series{good(1, 1)}
	f := fixes{set("a", 1, 5, good(api.MaxSamples, 1)), remove("a", 2, 6, 0)}
	for name, c := range map[string]struct {
		l        series
		f        fixes
		from, to int
		want     api.Errno
	}{
		"the series first":            {series{good(1, 1), good(1, 1)}, fixes{{}}, -1, -1, api.ErrOrder},
		"the fixes before moments":    {fine, fixes{{}}, -1, -1, api.ErrName},
		"from is no moment":           {fine, f, -1, 0, api.ErrArg},
		"to is no moment":             {fine, f, 0, api.End, api.ErrArg},
		"from, before the size":       {most, f, api.End, 5, api.ErrArg},
		"to, before the size of from": {most, f, 5, -1, api.ErrArg},
		"too many as of from":         {most, f, 5, 6, api.ErrLarge},
		"too many as of to":           {most, f, 0, 5, api.ErrLarge},
		"not too many":                {most, f, 0, 6, api.OK},
	} {
		got, e := sample.Changes(c.l, c.f, c.from, c.to)
		same(t, name, e, c.want)
		if e != api.OK {
			same(t, name+", the moments", got, []int{})
		}
	}
}

func TestP14GreatestLists(t *testing.T) {
	f := manyFixes("ann", api.MaxFixes)
	for i := range f {
		if i%2 == 1 {
			f[i] = mark("ann", i+1, i, 0, api.End-i, api.Good)
		}
	}
	l := long(api.MaxSamples-api.MaxFixes, api.MaxFixes, 1)
	got, e := sample.Fixed(l, f, api.End-1)
	same(t, "Fixed", []any{len(got), e}, []any{api.MaxSamples - api.MaxFixes/2, api.OK})
	changed, e := sample.Changes(l, f, 0, api.End-1)
	same(t, "Changes", []any{len(changed), e}, []any{api.MaxFixes/2 - 1, api.OK})
	overridden, e := sample.Overridden(f, api.End-1)
	same(t, "Overridden", []any{overridden, e}, []any{[]int{}, api.OK})
}
