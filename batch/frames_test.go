package batch_test

import (
	"fmt"
	"math"
	"math/rand"
	"slices"
	"testing"

	"plantlog/api"
	"plantlog/batch"
)

// wrongTriggers has triggers that are none.
var wrongTriggers = map[string]api.Trigger{
	"Start too great":          {Start: api.MaxValue + 1},
	"Start too small":          {Start: -api.MaxValue - 1, Stop: -api.MaxValue - 1},
	"Stop too small":           {Stop: -api.MaxValue - 1},
	"both too great":           {Start: api.MaxValue + 1, Stop: api.MaxValue + 1},
	"Stop greater than Start":  {Start: 5, Stop: 6},
	"Join below 0":             {Join: -1},
	"Join longer than a day":   {Join: api.DayLong + 1},
	"Least below 0":            {Least: -1},
	"Least longer than a day":  {Least: api.DayLong + 1},
	"the least Start":          {Start: math.MinInt, Stop: math.MinInt},
	"the greatest Start":       {Start: math.MaxInt},
	"the least Stop":           {Stop: math.MinInt},
	"the greatest Stop":        {Stop: math.MaxInt},
	"the least Join":           {Join: math.MinInt},
	"the greatest Join":        {Join: math.MaxInt},
	"the least Least":          {Least: math.MinInt},
	"the greatest Least":       {Least: math.MaxInt},
	"Stop greater by much":     {Start: -api.MaxValue, Stop: api.MaxValue},
	"Stop greater, both below": {Start: -6, Stop: -5},
}

func TestP81CheckTrigger(t *testing.T) {
	for name, c := range wrongTriggers {
		same(t, name, batch.CheckTrigger(c), api.ErrArg)
	}
	for _, c := range []api.Trigger{
		{},
		{Start: 5, Stop: 5},
		{Start: 5, Stop: -5, Join: 1, Least: 1},
		{Start: api.MaxValue, Stop: api.MaxValue},
		{Start: -api.MaxValue, Stop: -api.MaxValue},
		{Start: api.MaxValue, Stop: -api.MaxValue, Join: api.DayLong, Least: api.DayLong},
	} {
		same(t, "a trigger", batch.CheckTrigger(c), api.OK)
	}
}

func TestP81Frames(t *testing.T) {
	day := []int{api.DayLong, 3 * api.DayLong, 5 * api.DayLong}
	for name, c := range map[string]struct {
		trigger api.Trigger
		l       samples
		until   int
		want    frames
	}{
		"no samples":                  {api.Trigger{}, nil, 100, nil},
		"one":                         {api.Trigger{Start: 5, Stop: 2}, samples{good(10, 5), good(20, 1)}, 100, framed(10, 20)},
		"almost Start":                {api.Trigger{Start: 5, Stop: 2}, samples{good(10, 4), good(20, 1)}, 100, nil},
		"Stop itself":                 {api.Trigger{Start: 5, Stop: 2}, samples{good(10, 9), good(20, 2), good(30, 1)}, 100, framed(10, 30)},
		"Start again within":          {api.Trigger{Start: 5, Stop: 2}, samples{good(10, 9), good(20, 3), good(30, 9), good(40, 0)}, 100, framed(10, 40)},
		"two":                         {api.Trigger{Start: 5, Stop: 2}, samples{good(10, 5), good(20, 1), good(30, 7), good(40, -5)}, 100, framed(10, 20, 30, 40)},
		"uncertain ones count":        {api.Trigger{Start: 5, Stop: 2}, samples{uncertain(10, 5), uncertain(20, 1)}, 100, framed(10, 20)},
		"bad ones do not end it":      {api.Trigger{Start: 5, Stop: 2}, samples{good(10, 5), bad(15), good(20, 3), bad(25), good(30, 1)}, 100, framed(10, 30)},
		"bad ones do not begin it":    {api.Trigger{Start: -5, Stop: -8}, samples{bad(10), good(20, -9), bad(30)}, 100, nil},
		"until":                       {api.Trigger{Start: 5, Stop: 2}, samples{good(10, 5)}, 100, framed(10, 100)},
		"an end at until":             {api.Trigger{Start: 5, Stop: 2}, samples{good(10, 5), good(100, 1)}, 100, framed(10, 100)},
		"an end after until":          {api.Trigger{Start: 5, Stop: 2}, samples{good(10, 5), good(200, 1)}, 100, framed(10, 100)},
		"a beginning at until":        {api.Trigger{Start: 5, Stop: 2}, samples{good(100, 5)}, 100, nil},
		"a beginning before until":    {api.Trigger{Start: 5, Stop: 2}, samples{good(99, 5)}, 100, framed(99, 100)},
		"until 0":                     {api.Trigger{}, samples{good(0, 0)}, 0, nil},
		"until 1":                     {api.Trigger{}, samples{good(0, 0)}, 1, framed(0, 1)},
		"until the end":               {api.Trigger{}, samples{good(0, 0)}, api.End, framed(0, api.End)},
		"Start and Stop equal":        {api.Trigger{Start: 5, Stop: 5}, samples{good(0, 4), good(1, 5), good(2, 4), good(3, 5)}, 4, framed(1, 2, 3, 4)},
		"below 0":                     {api.Trigger{Start: -5, Stop: -8}, samples{good(0, -6), good(1, -5), good(2, -8), good(3, -9)}, 9, framed(1, 3)},
		"a gap of Join":               {api.Trigger{Start: 5, Stop: 5, Join: 3}, samples{good(0, 5), good(2, 0), good(5, 5), good(8, 0)}, 9, framed(0, 2, 5, 8)},
		"a gap less than Join":        {api.Trigger{Start: 5, Stop: 5, Join: 4}, samples{good(0, 5), good(2, 0), good(5, 5), good(8, 0)}, 9, framed(0, 8)},
		"three joined":                {api.Trigger{Start: 5, Stop: 5, Join: 2}, samples{good(0, 5), good(2, 0), good(3, 5), good(8, 0), good(9, 5), good(11, 0), good(13, 5)}, 20, framed(0, 11, 13, 20)},
		"a gap across a bad sample":   {api.Trigger{Start: 5, Stop: 5, Join: 4}, samples{good(0, 5), good(2, 0), bad(3), good(5, 5), good(8, 0)}, 9, framed(0, 8)},
		"of Least":                    {api.Trigger{Start: 5, Stop: 5, Least: 3}, samples{good(0, 5), good(3, 0), good(10, 5), good(12, 0), good(20, 5), good(24, 0)}, 90, framed(0, 3, 20, 24)},
		"too short at until":          {api.Trigger{Start: 5, Stop: 5, Least: 3}, samples{good(0, 5)}, 2, nil},
		"joined, then long enough":    {api.Trigger{Start: 5, Stop: 5, Join: 2, Least: 3}, samples{good(0, 5), good(1, 0), good(2, 5), good(3, 0), good(5, 5), good(6, 0)}, 9, framed(0, 3)},
		"short ones join others":      {api.Trigger{Start: 5, Stop: 5, Join: 3, Least: 4}, samples{good(0, 5), good(4, 0), good(6, 5), good(7, 0), good(9, 5), good(13, 0)}, 20, framed(0, 13)},
		"short ones between them":     {api.Trigger{Start: 5, Stop: 5, Join: 3, Least: 4}, samples{good(0, 5), good(4, 0), good(7, 5), good(8, 0), good(11, 5), good(15, 0)}, 20, framed(0, 4, 11, 15)},
		"a gap of a day":              {api.Trigger{Start: 5, Stop: 5, Join: api.DayLong}, samples{good(0, 5), good(day[0]+1, 0), good(2*day[0], 5), good(day[1], 0), good(4*day[0], 5)}, day[2], framed(0, day[1], 4*day[0], day[2])},
		"Least a day":                 {api.Trigger{Start: 5, Stop: 5, Least: api.DayLong}, samples{good(0, 5), good(day[0]-1, 0), good(day[0], 5), good(2*day[0], 0)}, day[2], framed(day[0], 2*day[0])},
		"the extreme values of a tag": {api.Trigger{Start: api.MaxValue, Stop: -api.MaxValue}, samples{good(0, api.MaxValue-1), good(1, api.MaxValue), good(2, -api.MaxValue)}, 9, framed(1, 9)},
	} {
		got, e := batch.Frames(c.trigger, c.l, c.until)
		same(t, name, []any{got, e}, []any{c.want, api.OK})
	}
}

func TestP81FramesErrors(t *testing.T) {
	wrong := wrongSeries["no quality"].l
	for name, c := range wrongSeries {
		got, e := batch.Frames(api.Trigger{}, c.l, -1)
		same(t, name, []any{got, e}, []any{"[]", c.want})
	}
	for name, c := range wrongTriggers {
		got, e := batch.Frames(c, wrong, -1)
		same(t, name, []any{got, e}, []any{"[]", api.ErrArg})
	}
	for _, until := range []int{-1, api.End + 1, math.MinInt, math.MaxInt} {
		got, e := batch.Frames(api.Trigger{}, samples{good(0, 5)}, until)
		same(t, fmt.Sprint("until ", until), []any{got, e}, []any{"[]", api.ErrArg})
	}
}

func TestP81ManyFrames(t *testing.T) {
	// A frame begins at each even moment, and ends at the next one.
	l := series(2*api.MaxFrames+2, func(i int) int { return 1 - i%2 })
	trigger := api.Trigger{Start: 1, Stop: 1}
	got, e := batch.Frames(trigger, l, 2*api.MaxFrames)
	same(t, "as many as can be", []any{len(got), e}, []any{api.MaxFrames, api.OK})
	same(t, "as many as can be, checked", batch.CheckFrames(got), api.OK)
	got, e = batch.Frames(trigger, l, 2*api.MaxFrames+1)
	same(t, "one more", []any{got, e}, []any{"[]", api.ErrLarge})
	// The last sample has a frame up to `until`, the only one that is long enough.
	trigger.Least = 2
	got, e = batch.Frames(trigger, l[:2*api.MaxFrames+1], 2*api.MaxFrames+2)
	same(t, "too many, before the short ones are dropped", []any{got, e}, []any{framed(2*api.MaxFrames, 2*api.MaxFrames+2), api.OK})
	trigger = api.Trigger{Start: 1, Stop: 1, Join: 2}
	got, e = batch.Frames(trigger, l, 2*api.MaxFrames+2)
	same(t, "too many, before they are joined", []any{got, e}, []any{framed(0, 2*api.MaxFrames+1), api.OK})
}

// framesAsTheDocumentSays goes through all milliseconds, and joins two frames at a time.
func framesAsTheDocumentSays(trigger api.Trigger, l samples, until int) frames {
	var f frames
	current := -1
	for now := range until {
		i := slices.IndexFunc(l, func(x api.Sample) bool { return x.At == now })
		if i < 0 || l[i].Quality == api.Bad {
			continue
		}
		switch {
		case current < 0 && l[i].Value >= trigger.Start:
			current = now
		case current >= 0 && l[i].Value < trigger.Stop:
			f = append(f, frame(current, now))
			current = -1
		}
	}
	if current >= 0 {
		f = append(f, frame(current, until))
	}
	for i := 1; i < len(f); i++ {
		if f[i].From-f[i-1].To < trigger.Join {
			f[i-1].To = f[i].To
			f = slices.Delete(f, i, i+1)
			i = 0
		}
	}
	var long frames
	for _, x := range f {
		if x.To-x.From >= trigger.Least {
			long = append(long, x)
		}
	}
	return long
}

func TestP81FramesAsTheDocumentSays(t *testing.T) {
	r := rand.New(rand.NewSource(91))
	for range 3000 {
		trigger := api.Trigger{Start: 1 + r.Intn(4), Join: r.Intn(6), Least: r.Intn(8)}
		trigger.Stop = trigger.Start - r.Intn(3)
		l, until := someSamples(r, 60, 6), r.Intn(70)
		got, e := batch.Frames(trigger, l, until)
		same(t, fmt.Sprintf("%+v %+v until %d", trigger, l, until), []any{got, e}, []any{framesAsTheDocumentSays(trigger, l, until), api.OK})
		same(t, "the frames, checked", batch.CheckFrames(got), api.OK)
		for _, f := range got {
			if f.To <= f.From {
				t.Errorf("%+v ends before it began", f)
			}
		}
	}
}

func TestP83Overlaps(t *testing.T) {
	for name, c := range map[string]struct {
		a, b, want frames
	}{
		"none":                     {nil, nil, nil},
		"one list is empty":        {framed(0, 5, 6, 8), nil, nil},
		"the same":                 {framed(0, 5, 6, 8), framed(0, 5, 6, 8), framed(0, 5, 6, 8)},
		"apart":                    {framed(0, 5), framed(6, 8), nil},
		"next to each other":       {framed(0, 5), framed(5, 8), nil},
		"a millisecond":            {framed(0, 6), framed(5, 8), framed(5, 6)},
		"one within the other":     {framed(0, 10), framed(3, 4), framed(3, 4)},
		"two within one":           {framed(0, 10), framed(1, 2, 4, 12), framed(1, 2, 4, 10)},
		"one across two":           {framed(0, 4, 6, 9), framed(2, 8), framed(2, 4, 6, 8)},
		"one across two, adjacent": {framed(0, 4, 4, 9), framed(2, 8), framed(2, 4, 4, 8)},
		"adjacent in both":         {framed(0, 4, 4, 9), framed(0, 4, 4, 9), framed(0, 4, 4, 9)},
		"adjacent at other places": {framed(0, 4, 4, 9), framed(1, 5, 5, 9), framed(1, 4, 4, 5, 5, 9)},
		"some do not overlap":      {framed(0, 1, 10, 20, 30, 31), framed(2, 3, 4, 5, 15, 16, 40, 41), framed(15, 16)},
		"all moments":              {framed(0, api.End), framed(0, 1, 1, api.End), framed(0, 1, 1, api.End)},
	} {
		total := 0
		for _, x := range c.want {
			total += x.To - x.From
		}
		got, n, e := batch.Overlaps(c.a, c.b)
		same(t, name, []any{got, n, e}, []any{c.want, total, api.OK})
		got, n, e = batch.Overlaps(c.b, c.a)
		same(t, name+", the other way", []any{got, n, e}, []any{c.want, total, api.OK})
	}
	for name, c := range wrongFrames {
		got, n, e := batch.Overlaps(c.f, framed(1, 0))
		same(t, name, []any{got, n, e}, []any{"[]", 0, c.want})
		got, n, e = batch.Overlaps(framed(0, 10), c.f)
		same(t, name+", the second list", []any{got, n, e}, []any{"[]", 0, c.want})
	}
}

// someFrames returns some frames before long.
func someFrames(r *rand.Rand, long int) frames {
	var f frames
	for now := r.Intn(5); now < long; now += r.Intn(4) {
		end := min(now+1+r.Intn(6), long)
		f = append(f, frame(now, end))
		now = end
	}
	return f
}

func TestP83OverlapsAsTheDocumentSays(t *testing.T) {
	r := rand.New(rand.NewSource(92))
	in := func(f frames, now int) int {
		return slices.IndexFunc(f, func(x api.Window) bool { return x.From <= now && now < x.To })
	}
	for range 2000 {
		a, b := someFrames(r, 40), someFrames(r, 40)
		var want frames
		total, last := 0, "none"
		for now := range 40 {
			i, k := in(a, now), in(b, now)
			pair := fmt.Sprint(i, k)
			switch {
			case i < 0 || k < 0:
				pair = "none"
			case pair == last:
				want[len(want)-1].To++
				total++
			default:
				want = append(want, frame(now, now+1))
				total++
			}
			last = pair
		}
		got, n, e := batch.Overlaps(a, b)
		same(t, fmt.Sprintf("%+v %+v", a, b), []any{got, n, e}, []any{want, total, api.OK})
	}
}
