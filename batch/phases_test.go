package batch_test

import (
	"fmt"
	"math"
	"math/big"
	"math/rand"
	"slices"
	"testing"

	"plantlog/api"
	"plantlog/batch"
)

func phase(number, from, to int) api.Phase {
	return api.Phase{Number: number, Window: frame(from, to)}
}

// numbered returns phases with these numbers, each a millisecond long.
func numbered(numbers ...int) phases {
	var p phases
	for i, n := range numbers {
		p = append(p, phase(n, i, i+1))
	}
	return p
}

func TestP82Phases(t *testing.T) {
	for name, c := range map[string]struct {
		l    samples
		f    api.Window
		want phases
	}{
		"no samples":                  {nil, frame(0, 10), nil},
		"one":                         {samples{good(3, 1)}, frame(0, 10), phases{phase(1, 3, 10)}},
		"one from before":             {samples{good(3, 1)}, frame(5, 10), phases{phase(1, 5, 10)}},
		"two":                         {samples{good(3, 1), good(5, 2)}, frame(0, 10), phases{phase(1, 3, 5), phase(2, 5, 10)}},
		"the same again":              {samples{good(3, 1), good(5, 1)}, frame(0, 10), phases{phase(1, 3, 10)}},
		"an uncertain one again":      {samples{good(3, 1), uncertain(5, 1), good(7, 1)}, frame(0, 10), phases{phase(1, 3, 10)}},
		"a bad one":                   {samples{good(3, 1), bad(5)}, frame(0, 10), phases{phase(1, 3, 5)}},
		"a bad one between":           {samples{good(3, 1), bad(5), good(6, 1)}, frame(0, 10), phases{phase(1, 3, 5), phase(1, 6, 10)}},
		"a bad one for phase 0":       {samples{good(3, 0), bad(5), good(6, 0)}, frame(0, 10), phases{phase(0, 3, 5), phase(0, 6, 10)}},
		"another value between":       {samples{good(3, 1), good(5, 2), good(6, 1)}, frame(0, 10), phases{phase(1, 3, 5), phase(2, 5, 6), phase(1, 6, 10)}},
		"no phase between":            {samples{good(3, 1), good(5, -1), good(6, 1)}, frame(0, 10), phases{phase(1, 3, 5), phase(1, 6, 10)}},
		"the least and the greatest":  {samples{good(0, 0), good(1, api.MaxPhase), good(2, 0)}, frame(0, 3), phases{phase(0, 0, 1), phase(api.MaxPhase, 1, 2), phase(0, 2, 3)}},
		"no phases":                   {samples{good(0, -1), good(1, api.MaxPhase+1), good(2, api.MaxValue), good(3, -api.MaxValue), bad(4)}, frame(0, 9), nil},
		"a change at the beginning":   {samples{good(3, 1), good(5, 2)}, frame(5, 10), phases{phase(2, 5, 10)}},
		"a change before it":          {samples{good(3, 1), good(5, 2)}, frame(4, 10), phases{phase(1, 4, 5), phase(2, 5, 10)}},
		"a change at the end":         {samples{good(3, 1), good(10, 2)}, frame(0, 10), phases{phase(1, 3, 10)}},
		"a change before the end":     {samples{good(3, 1), good(9, 2)}, frame(0, 10), phases{phase(1, 3, 9), phase(2, 9, 10)}},
		"all after it":                {samples{good(13, 1)}, frame(0, 10), nil},
		"a millisecond":               {samples{good(3, 1), good(4, 2), good(5, 3)}, frame(4, 5), phases{phase(2, 4, 5)}},
		"up to the end of all times":  {samples{good(3, 1)}, frame(0, api.End), phases{phase(1, 3, api.End)}},
		"two values that are no more": {samples{good(0, 2000), good(1, 2000), good(2, 5)}, frame(0, 3), phases{phase(5, 2, 3)}},
	} {
		got, e := batch.Phases(c.l, c.f)
		same(t, name, []any{got, e}, []any{c.want, api.OK})
	}
}

func TestP82PhasesErrors(t *testing.T) {
	for name, c := range wrongSeries {
		got, e := batch.Phases(c.l, frame(1, 0))
		same(t, name, []any{got, e}, []any{"[]", c.want})
	}
	for name, c := range wrongFrames {
		if len(c.f) != 1 {
			continue
		}
		got, e := batch.Phases(samples{good(0, 1)}, c.f[0])
		same(t, name, []any{got, e}, []any{"[]", c.want})
	}
}

func TestP82AsManyPhasesAsSamples(t *testing.T) {
	l := series(api.MaxSamples, func(i int) int { return i % 2 })
	p, e := batch.Phases(l, frame(0, api.End))
	same(t, "phases", []any{len(p), e}, []any{api.MaxSamples, api.OK})
	is, at, e := batch.Follows(recipe{{Number: 0, Repeat: 1}}, p)
	same(t, "Follows", []any{is, at, e}, []any{false, 1, api.OK})
	n, ok, e := batch.MapTime(p, p, api.End-1)
	same(t, "MapTime", []any{n, ok, e}, []any{api.End - 1, true, api.OK})
}

func TestP82PhasesAsTheDocumentSays(t *testing.T) {
	r := rand.New(rand.NewSource(93))
	for range 2000 {
		l, f := someSamples(r, 40, 3), frame(r.Intn(20), 20+r.Intn(30))
		if f.From == f.To {
			continue
		}
		for i := range l {
			if l[i].Value == 2 {
				l[i].Value = api.MaxPhase + r.Intn(2)
			}
		}
		var want phases
		last := -1
		for now := f.From; now < f.To; now++ {
			x := at(l, now)
			if x.Quality == api.Bad || x.Value > api.MaxPhase {
				last = -1
				continue
			}
			if x.Value == last {
				want[len(want)-1].Window.To++
			} else {
				want = append(want, phase(x.Value, now, now+1))
			}
			last = x.Value
		}
		got, e := batch.Phases(l, f)
		same(t, fmt.Sprintf("%+v %+v", l, f), []any{got, e}, []any{want, api.OK})
	}
}

// wrongRecipes has wrong recipes.
var wrongRecipes = map[string]struct {
	r    recipe
	want api.Errno
}{
	"no stages":                  {nil, api.ErrNone},
	"too many":                   {make(recipe, api.MaxStages+1), api.ErrLarge},
	"as many as can be, wrong":   {make(recipe, api.MaxStages), api.ErrArg},
	"a Number below 0":           {recipe{{Number: -1, Repeat: 1}}, api.ErrArg},
	"a Number too great":         {recipe{{Number: api.MaxPhase + 1, Repeat: 1}}, api.ErrArg},
	"the least Number":           {recipe{{Number: math.MinInt, Repeat: 1}}, api.ErrArg},
	"the greatest Number":        {recipe{{Number: math.MaxInt, Repeat: 1}}, api.ErrArg},
	"no occurrence":              {recipe{{Repeat: 0}}, api.ErrArg},
	"no occurrence, Optional":    {recipe{{Repeat: 0, Optional: true}}, api.ErrArg},
	"too many occurrences":       {recipe{{Repeat: 101}}, api.ErrArg},
	"the least Repeat":           {recipe{{Repeat: math.MinInt}}, api.ErrArg},
	"the greatest Repeat":        {recipe{{Repeat: math.MaxInt}}, api.ErrArg},
	"a Number twice":             {recipe{{Number: 1, Repeat: 1}, {Number: 1, Repeat: 2}}, api.ErrTwice},
	"a Number twice, far apart":  {recipe{{Number: 1, Repeat: 1}, {Number: 2, Repeat: 1}, {Number: 1, Repeat: 1}}, api.ErrTwice},
	"a Number twice, then wrong": {recipe{{Number: 1, Repeat: 1}, {Number: 1, Repeat: 1}, {Number: 2}}, api.ErrArg},
}

func TestP82CheckRecipe(t *testing.T) {
	for name, c := range wrongRecipes {
		same(t, name, batch.CheckRecipe(c.r), c.want)
	}
	long := make(recipe, api.MaxStages)
	for i := range long {
		long[i] = api.Stage{Number: i, Repeat: i + 1, Optional: i%2 == 0}
	}
	for name, r := range map[string]recipe{
		"one":                {{Repeat: 1}},
		"the greatest ones":  {{Number: api.MaxPhase, Repeat: 100, Optional: true}},
		"two out of order":   {{Number: 2, Repeat: 1}, {Number: 1, Repeat: 1}},
		"as many as can be":  long,
		"all are Optional":   {{Number: 1, Repeat: 1, Optional: true}, {Number: 2, Repeat: 1, Optional: true}},
		"the bounds at once": {{Number: api.MaxPhase, Repeat: 1}, {Number: 0, Repeat: 100}},
	} {
		same(t, name, batch.CheckRecipe(r), api.OK)
	}
}

func TestP82Follows(t *testing.T) {
	one := recipe{{Number: 1, Repeat: 1}}
	some := recipe{{Number: 1, Repeat: 2}, {Number: 2, Optional: true, Repeat: 2}, {Number: 3, Repeat: 1}}
	free := recipe{{Number: 1, Optional: true, Repeat: 1}, {Number: 2, Optional: true, Repeat: 3}}
	for name, c := range map[string]struct {
		r  recipe
		p  phases
		is bool
		at int
	}{
		"one":                           {one, numbered(1), true, 0},
		"none":                          {one, nil, false, 0},
		"another one":                   {one, numbered(2), false, 0},
		"one too many":                  {one, numbered(1, 1), false, 1},
		"one, then another":             {one, numbered(1, 2), false, 1},
		"all":                           {some, numbered(1, 1, 2, 2, 3), true, 0},
		"the least":                     {some, numbered(1, 3), true, 0},
		"too many of the first":         {some, numbered(1, 1, 1, 2, 3), false, 2},
		"too many of one that may miss": {some, numbered(1, 2, 2, 2, 3), false, 3},
		"too few":                       {some, numbered(1, 1, 2, 2), false, 4},
		"too few without the Optional":  {some, numbered(1, 1), false, 2},
		"none of some":                  {some, nil, false, 0},
		"the first is missing":          {some, numbered(2, 3), false, 0},
		"back again":                    {some, numbered(1, 2, 1, 3), false, 2},
		"after the end":                 {some, numbered(1, 3, 3), false, 2},
		"a number that no stage has":    {some, numbered(1, 4, 3), false, 1},
		"Optional ones, none":           {free, nil, true, 0},
		"Optional ones, the second":     {free, numbered(2, 2, 2), true, 0},
		"Optional ones, both":           {free, numbered(1, 2), true, 0},
		"Optional ones, the wrong way":  {free, numbered(2, 1), false, 1},
		"Optional ones, another":        {free, numbered(3), false, 0},
		"phase 0":                       {recipe{{Repeat: 2}}, numbered(0, 0), true, 0},
		"with times between":            {recipe{{Number: 1, Repeat: 2}}, phases{phase(1, 5, 7), phase(1, 9, api.End)}, true, 0},
		"a hundred occurrences":         {recipe{{Number: 1, Repeat: 100}}, numbered(slices.Repeat([]int{1}, 100)...), true, 0},
		"a hundred occurrences and one": {recipe{{Number: 1, Repeat: 100}}, numbered(slices.Repeat([]int{1}, 101)...), false, 100},
	} {
		is, at, e := batch.Follows(c.r, c.p)
		same(t, name, []any{is, at, e}, []any{c.is, c.at, api.OK})
	}
}

// allThatFollow returns the numbers of all lists of phases that follow a recipe.
func allThatFollow(r recipe) [][]int {
	if len(r) == 0 {
		return [][]int{nil}
	}
	var all [][]int
	for n := range r[0].Repeat + 1 {
		if n == 0 && !r[0].Optional {
			continue
		}
		for _, rest := range allThatFollow(r[1:]) {
			all = append(all, slices.Concat(slices.Repeat([]int{r[0].Number}, n), rest))
		}
	}
	return all
}

func TestP82FollowsAsTheDocumentSays(t *testing.T) {
	r := rand.New(rand.NewSource(94))
	count := map[bool]int{}
	for range 3000 {
		var rec recipe
		for _, n := range r.Perm(4)[:1+r.Intn(3)] {
			rec = append(rec, api.Stage{Number: n, Optional: r.Intn(2) == 0, Repeat: 1 + r.Intn(2)})
		}
		all := allThatFollow(rec)
		numbers := slices.Clone(all[r.Intn(len(all))])
		switch r.Intn(3) {
		case 0:
			numbers = append(numbers, r.Intn(4))
		case 1:
			if len(numbers) > 0 {
				numbers[r.Intn(len(numbers))] = r.Intn(4)
			}
		case 2:
			numbers = numbers[:r.Intn(len(numbers)+1)]
		}
		hope := func(n int) bool {
			return slices.ContainsFunc(all, func(x []int) bool { return len(x) >= n && slices.Equal(x[:n], numbers[:n]) })
		}
		is := slices.ContainsFunc(all, func(x []int) bool { return slices.Equal(x, numbers) })
		at := 0
		for !is && at < len(numbers) && hope(at+1) {
			at++
		}
		count[is]++
		gotIs, gotAt, e := batch.Follows(rec, numbered(numbers...))
		same(t, fmt.Sprintf("%+v %v", rec, numbers), []any{gotIs, gotAt, e}, []any{is, at, api.OK})
	}
	if count[true] < 300 || count[false] < 300 {
		t.Errorf("%d follow, %d do not", count[true], count[false])
	}
}

// wrongPhases has wrong lists of phases.
var wrongPhases = map[string]struct {
	p    phases
	want api.Errno
}{
	"too many":                        {make(phases, api.MaxSamples+1), api.ErrLarge},
	"as many as can be, wrong":        {make(phases, api.MaxSamples), api.ErrArg},
	"a Number below 0":                {phases{phase(-1, 0, 1)}, api.ErrArg},
	"a Number too great":              {phases{phase(api.MaxPhase+1, 0, 1)}, api.ErrArg},
	"the least Number":                {phases{phase(math.MinInt, 0, 1)}, api.ErrArg},
	"the greatest Number":             {phases{phase(math.MaxInt, 0, 1)}, api.ErrArg},
	"no time":                         {phases{phase(1, 5, 5)}, api.ErrArg},
	"before all moments":              {phases{phase(1, -1, 5)}, api.ErrArg},
	"after all moments":               {phases{phase(1, 0, api.End+1)}, api.ErrArg},
	"the least ints":                  {phases{phase(1, math.MinInt, math.MinInt)}, api.ErrArg},
	"the greatest ints":               {phases{phase(1, math.MaxInt, math.MaxInt)}, api.ErrArg},
	"the second one is wrong":         {phases{phase(1, 0, 5), phase(1, 9, 8)}, api.ErrArg},
	"one that begins too early":       {phases{phase(1, 0, 5), phase(1, 4, 8)}, api.ErrOrder},
	"an earlier one":                  {phases{phase(1, 5, 8), phase(1, 0, 5)}, api.ErrOrder},
	"an earlier one, a wrong Number":  {phases{phase(1, 5, 8), phase(-1, 0, 5)}, api.ErrArg},
	"a wrong order before a Number":   {phases{phase(1, 5, 8), phase(1, 0, 5), phase(-1, 8, 9)}, api.ErrOrder},
	"a wrong order, the window wrong": {phases{phase(1, 5, 8), phase(1, 6, 5)}, api.ErrArg},
}

func TestP82FollowsErrors(t *testing.T) {
	for name, c := range wrongRecipes {
		is, at, e := batch.Follows(c.r, phases{phase(1, 1, 0)})
		same(t, name, []any{is, at, e}, []any{false, 0, c.want})
	}
	for name, c := range wrongPhases {
		is, at, e := batch.Follows(recipe{{Number: 7, Repeat: 1}}, c.p)
		same(t, name, []any{is, at, e}, []any{false, 0, c.want})
	}
}

func TestP83MapTime(t *testing.T) {
	a := phases{phase(1, 10, 20), phase(2, 20, 23), phase(1, 30, 40)}
	b := phases{phase(1, 100, 105), phase(2, 200, 210), phase(1, 210, 310), phase(5, 400, 500)}
	far := phases{phase(0, 0, api.End)}
	farther := phases{phase(0, 1, api.End)}
	for name, c := range map[string]struct {
		a, b phases
		at   int
		want int
		ok   bool
	}{
		"the first moment":            {a, b, 10, 100, true},
		"rounded down":                {a, b, 11, 100, true},
		"the next one":                {a, b, 12, 101, true},
		"the last one":                {a, b, 19, 104, true},
		"the second phase":            {a, b, 20, 200, true},
		"a third of ten":              {a, b, 21, 203, true},
		"two thirds of ten":           {a, b, 22, 206, true},
		"between phases":              {a, b, 23, 0, false},
		"before the third one":        {a, b, 29, 0, false},
		"the third phase":             {a, b, 30, 210, true},
		"the end of the third phase":  {a, b, 39, 300, true},
		"after all":                   {a, b, 40, 0, false},
		"before all":                  {a, b, 9, 0, false},
		"back":                        {b, a, 104, 18, true},
		"back, a Number that is not":  {b, a, 450, 0, false},
		"no such phase":               {a, b[:2], 30, 0, false},
		"another Number":              {a, phases{phase(2, 0, 5)}, 10, 0, false},
		"another Number, but a later": {a, phases{phase(2, 0, 5), phase(1, 5, 9)}, 10, 0, false},
		"no phases":                   {nil, nil, 10, 0, false},
		"no phases of the other":      {a, nil, 10, 0, false},
		"no phases of the one":        {nil, b, 10, 0, false},
		"far":                         {far, farther, api.End / 2, api.End / 2, true},
		"far, back":                   {farther, far, api.End / 2, api.End/2 - 1, true},
		"the last moment of all":      {far, far, api.End - 1, api.End - 1, true},
		"the first moment of all":     {far, farther, 0, 1, true},
		"the last of less":            {farther, far, api.End - 1, api.End - 2, true},
		"a millisecond":               {phases{phase(3, 7, 8)}, phases{phase(3, 0, api.End)}, 7, 0, true},
		"to a millisecond":            {phases{phase(3, 0, api.End)}, phases{phase(3, 7, 8)}, api.End - 1, 7, true},
	} {
		got, ok, e := batch.MapTime(c.a, c.b, c.at)
		same(t, name, []any{got, ok, e}, []any{c.want, c.ok, api.OK})
	}
}

func TestP83MapTimeErrors(t *testing.T) {
	for name, c := range wrongPhases {
		got, ok, e := batch.MapTime(c.p, phases{phase(1, 1, 0)}, -1)
		same(t, name, []any{got, ok, e}, []any{0, false, c.want})
		got, ok, e = batch.MapTime(numbered(1), c.p, -1)
		same(t, name+", the second list", []any{got, ok, e}, []any{0, false, c.want})
	}
	for _, at := range []int{-1, api.End, math.MinInt, math.MaxInt} {
		got, ok, e := batch.MapTime(numbered(1), numbered(1), at)
		same(t, fmt.Sprint("the moment ", at), []any{got, ok, e}, []any{0, false, api.ErrArg})
	}
}

func TestP83MapTimeIsExact(t *testing.T) {
	r := rand.New(rand.NewSource(95))
	some := func() api.Window {
		from := r.Intn(api.End / 2)
		return frame(from, from+1+r.Intn(api.End-from))
	}
	for range 3000 {
		a, b := some(), some()
		at := a.From + r.Intn(a.To-a.From)
		part := big.NewInt(int64(at - a.From))
		part.Mul(part, big.NewInt(int64(b.To-b.From)))
		part.Quo(part, big.NewInt(int64(a.To-a.From)))
		want := b.From + int(part.Int64())
		got, ok, e := batch.MapTime(phases{{Number: 4, Window: a}}, phases{{Number: 4, Window: b}}, at)
		same(t, fmt.Sprintf("%d of %+v in %+v", at, a, b), []any{got, ok, e}, []any{want, true, api.OK})
	}
}
