package retain_test

import (
	"fmt"
	"math"
	"math/rand"
	"slices"
	"testing"

	"plantlog/api"
	"plantlog/retain"
)

func TestP92Levels(t *testing.T) {
	l := levels{level(0, 100), level(100, 1000), level(1000, 5000)}
	for _, c := range []struct {
		moment, at int
		want       []int
	}{
		{10, 10, []int{0, 1, 2}},                          // the ages are below 0
		{10, 111, []int{0, 1, 2}}, {10, 112, []int{1, 2}}, // the end of a sample's interval is 11
		{10, 1100, []int{1, 2}}, {10, 1101, []int{2}},
		{99, 1100, []int{1, 2}}, {99, 1101, []int{2}}, {100, 1101, []int{1, 2}}, {100, 1200, []int{1, 2}}, {100, 1201, []int{2}},
		{10, 6000, []int{2}}, {10, 6001, nil}, {999, 6000, []int{2}}, {999, 6001, nil}, {1000, 6001, []int{2}},
		{10, api.End - 1, nil}, {api.End - 1, api.End - 1, []int{0, 1, 2}}, {api.End - 200, api.End - 1, []int{1, 2}},
		{0, 0, []int{0, 1, 2}}, {0, 101, []int{0, 1, 2}}, {0, 102, []int{1, 2}},
	} {
		got, e := retain.Levels(l, nil, "t", c.moment, c.at)
		same(t, fmt.Sprintf("%d at %d", c.moment, c.at), []any{got, e}, []any{c.want, api.OK})
	}
	got, e := retain.Levels(levels{level(0, api.End)}, nil, "t", 0, api.End-1)
	same(t, "all moments", []any{got, e}, []any{[]int{0}, api.OK})
}

// TestP92LevelsWithHolds: without holds, the sample at 10 is lost at 112, and its bin at 1101.
func TestP92LevelsWithHolds(t *testing.T) {
	l := levels{level(0, 100), level(100, 1000)}
	for name, c := range map[string]struct {
		h    holds
		at   int
		want []int
	}{
		"in time":                      {holds{hold("a", "t", 0, 15, 112, 500)}, 499, []int{0, 1}},
		"until it ends":                {holds{hold("a", "t", 0, 15, 112, 500)}, 500, []int{1}},
		"too late":                     {holds{hold("a", "t", 0, 15, 113, 500)}, 200, []int{1}},
		"long before":                  {holds{hold("a", "t", 0, 15, 0, 500)}, 499, []int{0, 1}},
		"it ended too early":           {holds{hold("a", "t", 0, 15, 0, 112)}, 112, []int{1}},
		"for a millisecond":            {holds{hold("a", "t", 0, 15, 0, 113)}, 112, []int{0, 1}},
		"of all tags":                  {holds{hold("a", "", 0, 15, 0, 500)}, 499, []int{0, 1}},
		"of another tag":               {holds{hold("a", "u", 0, 15, 0, 500)}, 499, []int{1}},
		"of another time":              {holds{hold("a", "t", 11, 15, 0, 5000)}, 112, []int{1}},
		"of a time before":             {holds{hold("a", "t", 0, 10, 0, 5000)}, 112, []int{1}},
		"of this moment":               {holds{hold("a", "t", 10, 11, 0, 5000)}, 112, []int{0, 1}},
		"of the interval":              {holds{hold("a", "t", 99, 100, 0, 5000)}, 4999, []int{1}},
		"of the interval, until then":  {holds{hold("a", "t", 99, 100, 0, 5000)}, 5000, nil},
		"of the begin of the interval": {holds{hold("a", "t", 0, 1, 1101, 5000)}, 4999, []int{1}},
		"of the next interval":         {holds{hold("a", "t", 100, 101, 0, 5000)}, 1101, nil},
		"a bin, too late":              {holds{hold("a", "t", 0, 15, 1102, 5000)}, 1102, nil},
		"both":                         {holds{hold("a", "t", 0, 15, 0, 5000)}, 4999, []int{0, 1}},
		"one after the other":          {holds{hold("a", "t", 0, 15, 0, 200), hold("b", "t", 5, 20, 200, 300)}, 299, []int{0, 1}},
		"one after the other, keys":    {holds{hold("a", "t", 5, 20, 200, 300), hold("b", "t", 0, 15, 0, 200)}, 299, []int{0, 1}},
		"with a gap":                   {holds{hold("a", "t", 0, 15, 0, 200), hold("b", "t", 5, 20, 201, 300)}, 250, []int{1}},
		"up to the gap":                {holds{hold("a", "t", 0, 15, 0, 200), hold("b", "t", 5, 20, 201, 300)}, 199, []int{0, 1}},
		"the gap is of this moment":    {holds{hold("a", "t", 0, 15, 0, 200), hold("b", "t", 11, 20, 150, 300), hold("c", "t", 0, 15, 250, 400)}, 260, []int{1}},
		"the gap is of this tag":       {holds{hold("a", "t", 0, 15, 0, 200), hold("b", "u", 0, 15, 150, 300), hold("c", "t", 0, 15, 250, 400)}, 260, []int{1}},
		"one within another":           {holds{hold("a", "t", 0, 15, 0, 500), hold("b", "t", 0, 15, 50, 100), hold("c", "t", 0, 15, 450, 600)}, 599, []int{0, 1}},
		"in turn, of other moments":    {holds{hold("a", "t", 5, 10, 0, 1500), hold("b", "t", 90, 95, 1400, 1600)}, 1599, []int{1}},
		"up to the last moment":        {holds{hold("a", "t", 0, api.End, 0, api.End)}, api.End - 1, []int{0, 1}},
	} {
		got, e := retain.Levels(l, c.h, "t", 10, c.at)
		same(t, name, []any{got, e}, []any{c.want, api.OK})
	}
}

// wrongRules calls f with wrong levels, holds and tags, in this order.
func wrongRules(t *testing.T, f func(l levels, h holds, tag string) (any, api.Errno)) {
	t.Helper()
	zero, _ := f(nil, nil, "")
	check := func(what string, want api.Errno, l levels, h holds, tag string) {
		got, e := f(l, h, tag)
		same(t, what, []any{got, e}, []any{zero, want})
	}
	for name, c := range wrongLevels {
		check("levels: "+name, c.want, c.l, make(holds, api.MaxHolds+1), "")
	}
	for name, c := range wrongHolds {
		check("holds: "+name, c.want, levels{level(0, 5)}, c.h, "")
	}
	for _, tag := range wrongTags {
		check(fmt.Sprintf("tag %q", tag), api.ErrName, levels{level(0, 5)}, nil, tag)
	}
}

func TestP92LevelsErrors(t *testing.T) {
	wrongRules(t, func(l levels, h holds, tag string) (any, api.Errno) {
		got, e := retain.Levels(l, h, tag, -1, -1)
		return fmt.Sprint(got), e
	})
	for _, c := range wrongTimes {
		got, e := retain.Levels(levels{level(0, 5)}, nil, "t", c[0], c[1])
		same(t, fmt.Sprint(c), []any{got, e}, []any{"[]", api.ErrArg})
	}
}

// keeps reports whether a level keeps the data of a moment at a time, as the document says it, millisecond by millisecond.
func keeps(l api.Level, h holds, tag string, moment, at int) bool {
	long := max(l.Step, 1)
	from := moment / long * long
	age := func(now int) int { return now - (from + long) }
	for now := moment; now <= at; now++ {
		held := false
		for x := from; x < from+long; x++ {
			held = held || holdsIt(h, tag, x, now)
		}
		if age(now) > l.Keep && !held {
			return false
		}
	}
	return true
}

// kept returns the indices of the levels that keep the data of a moment at a time.
func kept(l levels, h holds, tag string, moment, at int) []int {
	var list []int
	for i, x := range l {
		if keeps(x, h, tag, moment, at) {
			list = append(list, i)
		}
	}
	return list
}

func TestP92LevelsAsTheDocumentSays(t *testing.T) {
	r := rand.New(rand.NewSource(114))
	held, lost := 0, 0
	for range 1500 {
		l, h := someLevels(r), someHolds(r, 12, 50)
		for range 5 {
			moment := r.Intn(30)
			at := moment + r.Intn(50)
			want := kept(l, h, "t", moment, at)
			got, e := retain.Levels(l, h, "t", moment, at)
			same(t, fmt.Sprintf("%+v %+v %d at %d", l, h, moment, at), []any{got, e}, []any{want, api.OK})
			if len(want) > len(kept(l, nil, "t", moment, at)) {
				held++
			}
			if len(want) < len(l) {
				lost++
			}
		}
	}
	if held < 500 || lost < 500 {
		t.Errorf("held: %d, lost: %d", held, lost)
	}
}

// TestP92LaterLevelsKeepLonger: what a level lost, no level before it keeps, without holds.
func TestP92LaterLevelsKeepLonger(t *testing.T) {
	r := rand.New(rand.NewSource(115))
	for range 3000 {
		l, moment := someLevels(r), r.Intn(50)
		got, e := retain.Levels(l, nil, "t", moment, moment+r.Intn(80))
		same(t, "Levels", e, api.OK)
		for i, x := range got {
			same(t, fmt.Sprintf("%+v", l), x, len(l)-len(got)+i)
		}
	}
}

func TestP92Purge(t *testing.T) {
	l := levels{level(0, 100), level(100, 1000), level(200, 2000)}
	s := samples{good(10, 5), good(20, 7), bad(30), good(150, 3), uncertain(160, 4), good(250, -1), good(1300, 9)}
	early := bins{bin(0, 12, 2, 1, 5, 7), bin(100, 3, 1, 1, 3, 3), bin(200, -1, 1, 0, -1, -1)}
	wide := bins{bin(0, 15, 3, 2, 3, 7), bin(200, -1, 1, 0, -1, -1)}
	last, lastWide := bin(1300, 9, 1, 0, 9, 9), bin(1200, 9, 1, 0, 9, 9)
	for at, want := range map[int][]any{
		0:           {samples{}, []bins{nil, nil}},
		9:           {samples{}, []bins{nil, nil}},
		10:          {s[:1], []bins{{bin(0, 5, 1, 0, 5, 5)}, {bin(0, 5, 1, 0, 5, 5)}}},
		29:          {s[:2], []bins{{bin(0, 12, 2, 0, 5, 7)}, {bin(0, 12, 2, 0, 5, 7)}}},
		111:         {s[:3], []bins{early[:1], {bin(0, 12, 2, 1, 5, 7)}}},
		112:         {s[1:3], []bins{early[:1], {bin(0, 12, 2, 1, 5, 7)}}},
		260:         {s[4:6], []bins{early, wide}},
		261:         {s[4:6], []bins{early, wide}},
		262:         {s[5:6], []bins{early, wide}},
		1100:        {samples{}, []bins{early, wide}},
		1101:        {samples{}, []bins{early[1:], wide}},
		1201:        {samples{}, []bins{early[2:], wide}},
		1300:        {s[6:], []bins{{early[2], last}, {wide[0], wide[1], lastWide}}},
		1301:        {s[6:], []bins{{last}, {wide[0], wide[1], lastWide}}},
		2200:        {samples{}, []bins{{last}, {wide[0], wide[1], lastWide}}},
		2201:        {samples{}, []bins{{last}, {wide[1], lastWide}}},
		3400:        {samples{}, []bins{nil, {lastWide}}},
		3401:        {samples{}, []bins{nil, nil}},
		api.End - 1: {samples{}, []bins{nil, nil}},
	} {
		left, b, e := retain.Purge(l, nil, "t", s, at)
		same(t, fmt.Sprint("at ", at), []any{left, b, e}, []any{want[0], want[1], api.OK})
	}
	h := holds{hold("a", "t", 0, 15, 100, 5000), hold("b", "u", 0, 500, 0, 5000)}
	left, b, e := retain.Purge(l, h, "t", s, 4000)
	same(t, "with holds", []any{left, b, e}, []any{s[:1], []bins{early[:1], wide[:1]}, api.OK})
	left, b, e = retain.Purge(levels{level(0, 100)}, nil, "t", s, 260)
	same(t, "samples only", []any{left, b, e}, []any{s[4:6], []bins{}, api.OK})
	left, b, e = retain.Purge(l, nil, "t", nil, 260)
	same(t, "no samples", []any{left, b, e}, []any{samples{}, []bins{nil, nil}, api.OK})
	left, b, e = retain.Purge(levels{level(0, 1)}, nil, "t", samples{good(api.End-1, 5)}, api.End-1)
	same(t, "the last moment", []any{left, b, e}, []any{samples{good(api.End-1, 5)}, []bins{}, api.OK})
}

func TestP92PurgeErrors(t *testing.T) {
	wrongRules(t, func(l levels, h holds, tag string) (any, api.Errno) {
		left, b, e := retain.Purge(l, h, tag, samples{good(-1, 0)}, -1)
		return fmt.Sprint(left, b), e
	})
	for name, c := range wrongSeries {
		left, b, e := retain.Purge(levels{level(0, 5), level(10, 10)}, nil, "t", c.l, -1)
		same(t, name, []any{left, b, e}, []any{"[]", "[]", c.want})
	}
	for _, at := range []int{-1, api.End, math.MinInt, math.MaxInt} {
		left, b, e := retain.Purge(levels{level(0, 5), level(10, 10)}, nil, "t", samples{good(5, 0)}, at)
		same(t, fmt.Sprint("at ", at), []any{left, b, e}, []any{"[]", "[]", api.ErrArg})
	}
}

func TestP92PurgeAsTheDocumentSays(t *testing.T) {
	r := rand.New(rand.NewSource(116))
	for range 1000 {
		l, h, s, at := someLevels(r), someHolds(r, 6, 50), someSamples(r, 50), r.Intn(70)
		known := slices.DeleteFunc(slices.Clone(s), func(x api.Sample) bool { return x.At > at })
		left := slices.DeleteFunc(slices.Clone(known), func(x api.Sample) bool { return !keeps(l[0], h, "t", x.At, at) })
		var want []bins
		for _, x := range l[1:] {
			gone := func(b api.Bin) bool { return !keeps(x, h, "t", b.From, at) }
			want = append(want, slices.DeleteFunc(binned(known, x.Step, 50), gone))
		}
		got, b, e := retain.Purge(l, h, "t", s, at)
		same(t, fmt.Sprintf("%+v %+v %+v at %d", l, h, s, at), []any{got, b, e}, []any{left, want, api.OK})
	}
}

func TestP93Answer(t *testing.T) {
	l := levels{level(0, 1000), level(100, 2000), level(300, 3000)}
	for name, c := range map[string]struct {
		w        api.Window
		step, at int
		want     int
		ok       bool
	}{
		"the coarsest one":                 {window(0, 600), 300, 600, 2, true},
		"of a multiple of its step":        {window(0, 600), 600, 600, 2, true},
		"a step that the next one divides": {window(0, 600), 200, 600, 1, true},
		"a step that none divides":         {window(0, 600), 150, 600, 0, true},
		"its step":                         {window(0, 600), 100, 600, 1, true},
		"one millisecond":                  {window(5, 6), 1, 6, 0, true},
		"samples are lost":                 {window(0, 600), 150, 1002, 0, false},
		"samples are not lost":             {window(0, 600), 150, 1001, 0, true},
		"bins are lost":                    {window(0, 600), 200, 2101, 0, false},
		"bins are not lost":                {window(0, 600), 200, 2100, 1, true},
		"all are lost":                     {window(0, 600), 300, 3301, 0, false},
		"all are not lost":                 {window(0, 600), 300, 3300, 2, true},
		"later bins are not lost":          {window(200, 600), 200, 2300, 1, true},
		"later bins are lost":              {window(200, 600), 200, 2301, 0, false},
		"a short step, long ago":           {window(0, 600), 50, 2000, 0, false},
		"up to the last moment but one":    {window(0, api.End-api.DayLong), api.DayLong, api.End - 1, 0, false},
		"the last day but one":             {window(api.End-2*api.DayLong, api.End-api.DayLong), api.DayLong, api.End - api.DayLong, 0, false},
	} {
		got, ok, e := retain.Answer(l, nil, "t", c.w, c.step, c.at)
		same(t, name, []any{got, ok, e}, []any{c.want, c.ok, api.OK})
	}
	all := levels{level(0, api.End-1), level(api.DayLong, api.End)}
	got, ok, e := retain.Answer(all, nil, "t", window(0, api.End-api.DayLong), api.DayLong, api.End-1)
	same(t, "all moments", []any{got, ok, e}, []any{1, true, api.OK})
	got, ok, e = retain.Answer(all, nil, "t", window(0, api.End-api.DayLong), api.DayLong/2, api.End-1)
	same(t, "all moments, a shorter step", []any{got, ok, e}, []any{0, true, api.OK})
}

// TestP93AnswerWithHolds: without holds, level 1 loses its first bins at 1101, 1201 and 1301.
func TestP93AnswerWithHolds(t *testing.T) {
	l := levels{level(0, 100), level(100, 1000)}
	for name, c := range map[string]struct {
		h    holds
		at   int
		want int
		ok   bool
	}{
		"of all of it":                  {holds{hold("a", "t", 0, 300, 0, 5000)}, 4999, 1, true},
		"until it ends":                 {holds{hold("a", "t", 0, 300, 0, 5000)}, 5000, 0, false},
		"of another tag":                {holds{hold("a", "u", 0, 300, 0, 5000)}, 1101, 0, false},
		"of a part of each bin":         {holds{hold("a", "t", 99, 201, 0, 5000)}, 4999, 1, true},
		"not of the last bin":           {holds{hold("a", "t", 99, 200, 0, 5000)}, 1301, 0, false},
		"the last bin is not lost":      {holds{hold("a", "t", 99, 200, 0, 5000)}, 1300, 1, true},
		"not of the first bin":          {holds{hold("a", "t", 100, 300, 0, 5000)}, 1101, 0, false},
		"not of the middle":             {holds{hold("a", "t", 0, 100, 0, 5000), hold("b", "t", 200, 300, 0, 5000)}, 1201, 0, false},
		"the middle is not lost":        {holds{hold("a", "t", 0, 100, 0, 5000), hold("b", "t", 200, 300, 0, 5000)}, 1200, 1, true},
		"one for each bin":              {holds{hold("a", "t", 0, 1, 0, 5000), hold("b", "", 150, 160, 0, 5000), hold("c", "t", 299, 300, 0, 5000)}, 4999, 1, true},
		"one bin's hold ends":           {holds{hold("a", "t", 0, 1, 0, 5000), hold("b", "", 150, 160, 0, 4000), hold("c", "t", 299, 300, 0, 5000)}, 4000, 0, false},
		"one bin's hold is made late":   {holds{hold("a", "t", 0, 1, 0, 5000), hold("b", "", 150, 160, 1202, 5000), hold("c", "t", 299, 300, 0, 5000)}, 4000, 0, false},
		"one bin's hold is not late":    {holds{hold("a", "t", 0, 1, 0, 5000), hold("b", "", 150, 160, 1201, 5000), hold("c", "t", 299, 300, 0, 5000)}, 4000, 1, true},
		"the first hold is made late":   {holds{hold("a", "t", 0, 300, 1102, 5000)}, 4000, 0, false},
		"the first hold is not late":    {holds{hold("a", "t", 0, 300, 1101, 5000)}, 4000, 1, true},
		"a hold after the window":       {holds{hold("a", "t", 0, 300, 0, 5000), hold("b", "t", 300, 400, 0, 1000)}, 4999, 1, true},
		"two holds of all, in turn":     {holds{hold("a", "t", 0, 300, 0, 2000), hold("b", "t", 0, 300, 2000, 5000)}, 4999, 1, true},
		"two holds of a part, in turn":  {holds{hold("a", "t", 0, 300, 0, 2000), hold("b", "t", 0, 200, 2000, 5000)}, 2000, 0, false},
		"two holds of parts, not lost":  {holds{hold("a", "t", 0, 300, 0, 2000), hold("b", "t", 0, 200, 2000, 5000)}, 1999, 1, true},
		"a hold that begins within one": {holds{hold("a", "t", 0, 150, 0, 5000), hold("b", "t", 150, 300, 0, 5000)}, 4999, 1, true},
	} {
		got, ok, e := retain.Answer(l, c.h, "t", window(0, 300), 100, c.at)
		same(t, name, []any{got, ok, e}, []any{c.want, c.ok, api.OK})
	}
	h := holds{hold("a", "t", 0, 300, 0, 5000)}
	got, ok, e := retain.Answer(l, h, "t", window(0, 300), 50, 4999)
	same(t, "samples that are held", []any{got, ok, e}, []any{0, true, api.OK})
	got, ok, e = retain.Answer(l, holds{hold("a", "t", 0, 299, 0, 5000)}, "t", window(0, 300), 50, 4999)
	same(t, "not the last sample", []any{got, ok, e}, []any{0, false, api.OK})
	got, ok, e = retain.Answer(levels{level(0, 1), level(api.DayLong, 2)}, holds{hold("a", "", 0, api.End, 0, api.End)}, "t", window(0, api.End-api.DayLong), 1, api.End-1)
	same(t, "all moments are held", []any{got, ok, e}, []any{0, true, api.OK})
}

func TestP93AnswerErrors(t *testing.T) {
	l := levels{level(0, 5), level(10, 100)}
	wrongRules(t, func(l levels, h holds, tag string) (any, api.Errno) {
		got, ok, e := retain.Answer(l, h, tag, window(5, 3), 0, -1)
		return fmt.Sprint(got, ok), e
	})
	for _, c := range []struct {
		w        api.Window
		step, at int
		want     api.Errno
	}{
		{window(-10, 20), 10, 30, api.ErrArg},
		{window(10, 10), 10, 30, api.ErrArg},
		{window(20, 10), 10, 30, api.ErrArg},
		{window(0, 40), 10, 39, api.ErrArg},
		{window(0, 40), 10, 40, api.OK},
		{window(0, api.End), api.DayLong, api.End - 1, api.ErrArg},
		{window(0, api.End), api.DayLong, api.End, api.ErrArg},
		{window(0, 20), 10, api.End, api.ErrArg},
		{window(0, 20), 10, -1, api.ErrArg},
		{window(0, 20), 10, math.MinInt, api.ErrArg},
		{window(0, 20), 10, math.MaxInt, api.ErrArg},
		{window(math.MinInt, 20), 10, 30, api.ErrArg},
		{window(0, math.MinInt), 10, 30, api.ErrArg},
		{window(0, math.MaxInt), 10, 30, api.ErrArg},
		{window(math.MinInt, math.MinInt), 10, 30, api.ErrArg},
		{window(math.MaxInt, math.MaxInt), 10, math.MaxInt, api.ErrArg},
		{window(5, 20), 10, 30, api.ErrRule},
		{window(0, 25), 10, 30, api.ErrRule},
		{window(5, 25), 10, 30, api.ErrRule},
		{window(5, 25), 5, 30, api.OK},
		{window(5, 25), 20, 30, api.ErrRule},
		{window(0, 20), 40, 30, api.ErrRule},
		{window(5, 20), 7, 30, api.ErrArg},
	} {
		got, ok, e := retain.Answer(l, nil, "t", c.w, c.step, c.at)
		same(t, fmt.Sprintf("%+v", c), e, c.want)
		if e != api.OK {
			same(t, fmt.Sprintf("%+v", c), []any{got, ok}, []any{0, false})
		}
	}
	for _, step := range noSteps {
		got, ok, e := retain.Answer(l, nil, "t", window(0, 20), step, 30)
		same(t, fmt.Sprint("step ", step), []any{got, ok, e}, []any{0, false, api.ErrArg})
	}
}

func TestP93AnswerAsTheDocumentSays(t *testing.T) {
	r := rand.New(rand.NewSource(117))
	count := map[string]int{}
	for range 3000 {
		l, h, step := someLevels(r), someHolds(r, 20, 40), divisors[r.Intn(len(divisors))]
		from := r.Intn(20) / step * step
		w := window(from, from+step*(1+r.Intn(1+20/step)))
		at := w.To + r.Intn(30)
		want, is := 0, false
		for i, x := range l {
			all := step%max(x.Step, 1) == 0
			for moment := w.From; moment < w.To; moment++ {
				all = all && keeps(x, h, "t", moment, at)
			}
			if all {
				want, is = i, true
			}
		}
		count[fmt.Sprint(want, is)]++
		got, ok, e := retain.Answer(l, h, "t", w, step, at)
		same(t, fmt.Sprintf("%+v %+v %+v every %d at %d", l, h, w, step, at), []any{got, ok, e}, []any{want, is, api.OK})
	}
	for _, answer := range []string{"0 false", "0 true", "1 true", "2 true"} {
		if count[answer] < 100 {
			t.Errorf("%v", count)
		}
	}
}

func TestP93Ends(t *testing.T) {
	l := levels{level(0, 100), level(100, 1000)}
	for name, c := range map[string]struct {
		l      levels
		h      holds
		moment int
		want   int
		ok     bool
	}{
		"samples only":             {l[:1], nil, 10, 112, true},
		"two levels":               {l, nil, 10, 1101, true},
		"the end of a bin":         {l, nil, 99, 1101, true},
		"the next bin":             {l, nil, 100, 1201, true},
		"the least Keep":           {levels{level(0, 1)}, nil, 0, 3, true},
		"a hold":                   {l, holds{hold("a", "t", 0, 15, 100, 2000)}, 10, 2000, true},
		"a hold of the bin":        {l, holds{hold("a", "t", 50, 60, 100, 2000)}, 10, 2000, true},
		"a hold of samples":        {l[:1], holds{hold("a", "t", 50, 60, 100, 2000)}, 10, 112, true},
		"a hold too late":          {l, holds{hold("a", "t", 0, 15, 1102, 2000)}, 10, 1101, true},
		"just not too late":        {l, holds{hold("a", "t", 0, 15, 1101, 2000)}, 10, 2000, true},
		"a hold of another tag":    {l, holds{hold("a", "u", 0, 15, 100, 2000)}, 10, 1101, true},
		"one after the other":      {l, holds{hold("a", "t", 0, 15, 2000, 3000), hold("b", "", 0, 15, 5, 2000)}, 10, 3000, true},
		"with a gap":               {l, holds{hold("a", "t", 0, 15, 2001, 3000), hold("b", "", 0, 15, 5, 2000)}, 10, 2000, true},
		"the samples are held":     {levels{level(0, 10), level(10, 20)}, holds{hold("a", "t", 11, 12, 0, 500)}, 11, 500, true},
		"not for good":             {l, holds{hold("a", "t", 0, 15, 100, api.End-1)}, 10, api.End - 1, true},
		"for good":                 {l, holds{hold("a", "t", 0, 15, 100, api.End)}, 10, 0, false},
		"up to the last moment":    {levels{level(0, api.End)}, nil, 0, 0, false},
		"the last but two":         {levels{level(0, 1)}, nil, api.End - 4, api.End - 1, true},
		"the last but one":         {levels{level(0, 1)}, nil, api.End - 3, 0, false},
		"the last moment":          {levels{level(0, 1)}, nil, api.End - 1, 0, false},
		"the last interval":        {levels{level(0, 1), level(api.DayLong, 2)}, nil, api.End - api.DayLong, 0, false},
		"lost at the last moment":  {levels{level(0, 5), level(10, api.End-12)}, nil, 9, api.End - 1, true},
		"not lost for a moment":    {levels{level(0, 5), level(10, api.End-11)}, nil, 9, 0, false},
		"a Keep up to the end":     {levels{level(0, 5), level(api.DayLong, api.End)}, nil, api.End - 1, 0, false},
		"a hold made at the end":   {l, holds{hold("a", "t", 0, 15, api.End-1, api.End)}, 10, 1101, true},
		"a hold up to before this": {l, holds{hold("a", "t", 0, 15, 0, 1101)}, 10, 1101, true},
		"a hold a little longer":   {l, holds{hold("a", "t", 0, 15, 0, 1102)}, 10, 1102, true},
		"holds of each level":      {l, holds{hold("a", "t", 0, 15, 100, 1500), hold("b", "t", 15, 100, 1200, 1300)}, 10, 1500, true},
	} {
		got, ok, e := retain.Ends(c.l, c.h, "t", c.moment)
		same(t, name, []any{got, ok, e}, []any{c.want, c.ok, api.OK})
	}
}

func TestP93EndsErrors(t *testing.T) {
	wrongRules(t, func(l levels, h holds, tag string) (any, api.Errno) {
		got, ok, e := retain.Ends(l, h, tag, -1)
		return fmt.Sprint(got, ok), e
	})
	for _, moment := range []int{-1, api.End, math.MinInt, math.MaxInt} {
		got, ok, e := retain.Ends(levels{level(0, 5)}, nil, "t", moment)
		same(t, fmt.Sprint(moment), []any{got, ok, e}, []any{0, false, api.ErrArg})
	}
}

func TestP93EndsAsTheDocumentSays(t *testing.T) {
	r := rand.New(rand.NewSource(118))
	for range 1500 {
		l, h, moment := someLevels(r), someHolds(r, 6, 50), r.Intn(30)
		want := moment
		for len(kept(l, h, "t", moment, want)) > 0 {
			want++
		}
		got, ok, e := retain.Ends(l, h, "t", moment)
		same(t, fmt.Sprintf("%+v %+v %d", l, h, moment), []any{got, ok, e}, []any{want, true, api.OK})
	}
}
