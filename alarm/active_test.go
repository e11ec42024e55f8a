package alarm_test

import (
	"fmt"
	"math"
	"math/rand"
	"testing"

	"plantlog/alarm"
	"plantlog/api"
)

// at returns the sample whose value a tag has at a moment; false if it has none.
func at(l samples, moment int) (api.Sample, bool) {
	var last api.Sample
	is := false
	for _, x := range l {
		if x.At <= moment {
			last, is = x, true
		}
	}
	return last, is
}

// holds says what the document says of a condition at a moment.
func holds(x api.Alarm, l samples, moment int) bool {
	s, is := at(l, moment)
	if !is {
		return false
	}
	if s.Quality == api.Bad {
		return x.Kind == api.AlarmBad
	}
	return x.Kind == api.AlarmHigh && s.Value > x.Limit || x.Kind == api.AlarmLow && s.Value < x.Limit
}

// cleared says what the document says of a cleared condition at a moment.
func cleared(x api.Alarm, l samples, moment int) bool {
	s, is := at(l, moment)
	if holds(x, l, moment) || !is || s.Quality == api.Bad {
		return false
	}
	switch x.Kind {
	case api.AlarmHigh:
		return s.Value <= x.Limit-x.Deadband
	case api.AlarmLow:
		return s.Value >= x.Limit+x.Deadband
	}
	return true
}

// told returns for each moment before until whether an alarm is active, as the document says it, millisecond by millisecond.
func told(x api.Alarm, l samples, until int) []bool {
	active := make([]bool, until)
	is := false
	for moment := range until {
		all, delay := holds, x.On
		if is {
			all, delay = cleared, x.Off
		}
		change := true
		for before := moment - delay; before <= moment; before++ {
			change = change && all(x, l, before)
		}
		is = is != change
		active[moment] = is
	}
	return active
}

// asWindows returns the windows of the moments that are true.
func asWindows(moments []bool) windows {
	var list windows
	for i, is := range moments {
		switch {
		case is && i > 0 && moments[i-1]:
			list[len(list)-1].To++
		case is:
			list = append(list, window(i, i+1))
		}
	}
	return list
}

func TestP62Active(t *testing.T) {
	example := with(high("a", 10), func(x *api.Alarm) { x.Deadband, x.On = 2, 5 })
	l := samples{good(100, 11), good(200, 9), good(300, 8)}
	low := with(high("a", 10), func(x *api.Alarm) { x.Kind, x.Deadband, x.Off = api.AlarmLow, 2, 3 })
	isBad := with(high("a", 0), func(x *api.Alarm) { x.Kind, x.On, x.Off = api.AlarmBad, 2, 1 })
	plain := high("a", 10)
	slow := with(plain, func(x *api.Alarm) { x.On, x.Off = 3, 4 })
	slowest := with(plain, func(x *api.Alarm) { x.On, x.Off = api.MaxDelay, api.MaxDelay })
	const day = api.DayLong
	for _, c := range []struct {
		what  string
		x     api.Alarm
		l     samples
		until int
		want  windows
	}{
		{"the example", example, l, 400, windows{window(105, 300)}},
		{"the example before it is active", example, l, 105, nil},
		{"the example when it becomes active", example, l, 106, windows{window(105, 106)}},
		{"the example while it is active", example, l, 250, windows{window(105, 250)}},
		{"the example up to its end", example, l, 300, windows{window(105, 300)}},
		{"the example just after it", example, l, 301, windows{window(105, 300)}},
		{"no samples", plain, nil, 50, nil},
		{"until 0", plain, samples{good(0, 11)}, 0, nil},
		{"at once", plain, samples{good(0, 11)}, 1, windows{window(0, 1)}},
		{"until End", plain, samples{good(5, 11)}, api.End, windows{window(5, api.End)}},
		{"equal to the limit", plain, samples{good(0, 10)}, 50, nil},
		{"cleared at the limit", plain, samples{good(0, 11), good(5, 10)}, 50, windows{window(0, 5)}},
		{"uncertain values count", plain, samples{uncertain(0, 11), uncertain(5, 10)}, 50, windows{window(0, 5)}},
		{"a bad value neither fulfils", plain, samples{bad(0)}, 50, nil},
		{"nor clears", plain, samples{good(0, 11), bad(5), good(9, 10)}, 50, windows{window(0, 9)}},
		{"nor clears, though 0 would", plain, samples{good(0, 11), bad(5)}, 50, windows{window(0, 50)}},
		{"a low one", low, samples{good(0, 10), good(5, 9), good(8, 11), good(10, 12), good(20, 9)}, 50, windows{window(5, 13), window(20, 50)}},
		{"a low one and bad values", low, samples{bad(0), good(5, 9), bad(8), good(10, 12)}, 50, windows{window(5, 13)}},
		{"bad ones", isBad, samples{good(0, 10), bad(5), uncertain(9, 3), bad(10), good(15, 0), good(18, 1)}, 50, windows{window(7, 16)}},
		{"a bad one has to have a value", isBad, samples{bad(30)}, 50, windows{window(32, 50)}},
		{"just not long enough", slow, samples{good(10, 11), good(13, 10)}, 50, nil},
		{"just long enough", slow, samples{good(10, 11), good(14, 10)}, 50, windows{window(13, 18)}},
		{"interrupted by a bad value", slow, samples{good(10, 11), bad(12), good(13, 11), good(15, 10)}, 50, nil},
		{"not interrupted by another value", slow, samples{good(10, 11), uncertain(12, 12), good(13, 13)}, 50, windows{window(13, 50)}},
		{"cleared just not long enough", slow, samples{good(10, 11), good(20, 10), good(24, 11)}, 50, windows{window(13, 50)}},
		{"cleared just long enough", slow, samples{good(10, 11), good(20, 10), good(25, 11)}, 50, windows{window(13, 24), window(28, 50)}},
		{"clearing interrupted", slow, samples{good(10, 11), good(20, 10), bad(23), good(24, 10), good(26, 9)}, 50, windows{window(13, 28)}},
		{"cleared before it is active", slow, samples{good(0, 0), good(10, 11)}, 50, windows{window(13, 50)}},
		{"within the deadband before", example, samples{good(0, 9), good(10, 11)}, 50, windows{window(15, 50)}},
		{"not cleared between", example, samples{good(0, 11), good(10, 9), good(20, 11), good(30, 8)}, 50, windows{window(5, 30)}},
		{"within the deadband the clearing is interrupted", with(example, func(x *api.Alarm) { x.Off = 5 }), samples{good(0, 11), good(10, 8), good(13, 9), good(14, 8)}, 50, windows{window(5, 19)}},
		{"samples at until", plain, samples{good(5, 11), good(9, 1)}, 9, windows{window(5, 9)}},
		{"samples after until", slow, samples{good(5, 11), good(8, 1), good(9, 11)}, 8, nil},
		{"the longest delays", slowest, samples{good(0, 11), good(2*day, 0)}, 4 * day, windows{window(day, 3*day)}},
		{"On beyond the end", slowest, samples{good(api.End-5, 11)}, api.End, nil},
		{"Off beyond the end", slowest, samples{good(0, 11), good(api.End-5, 1)}, api.End, windows{window(day, api.End)}},
		{"all values", with(high("a", -api.MaxValue), func(x *api.Alarm) { x.Deadband = 2 * api.MaxValue }), samples{good(0, api.MaxValue), good(9, -api.MaxValue)}, 50, windows{window(0, 50)}},
	} {
		got, e := alarm.Active(c.x, c.l, c.until)
		same(t, c.what, []any{got, e}, []any{c.want, api.OK})
	}
}

func TestP62ActiveAsTheDocumentSays(t *testing.T) {
	r := rand.New(rand.NewSource(61))
	found := 0
	for range 4000 {
		x, l, until := someAlarm(r, "a", "t"), someSamples(r, 40), r.Intn(50)
		want := asWindows(told(x, l, until))
		found += len(want)
		got, e := alarm.Active(x, l, until)
		same(t, fmt.Sprintf("%+v %v %d", x, l, until), []any{got, e}, []any{want, api.OK})
	}
	if found < 3000 {
		t.Errorf("%d windows", found)
	}
}

// TestP62ClearedBetween: between two activations the value was cleared for Off milliseconds.
func TestP62ClearedBetween(t *testing.T) {
	r := rand.New(rand.NewSource(62))
	pairs := 0
	for range 2000 {
		x, l := someAlarm(r, "a", "t"), someSamples(r, 60)
		list, _ := alarm.Active(x, l, 60)
		for i := 1; i < len(list); i++ {
			pairs++
			long, longest := 0, 0
			for moment := list[i-1].From; moment < list[i].From; moment++ {
				long++
				if !cleared(x, l, moment) {
					long = 0
				}
				longest = max(longest, long)
			}
			if longest <= x.Off {
				t.Errorf("%+v %v: cleared for %d milliseconds", x, l, longest)
			}
		}
	}
	if pairs < 500 {
		t.Errorf("%d pairs", pairs)
	}
}

func TestP62ActiveErrors(t *testing.T) {
	fine := samples{good(0, 11)}
	for name, c := range map[string]struct {
		x     api.Alarm
		l     samples
		until int
		want  api.Errno
	}{
		"until 0":                   {high("a", 5), fine, 0, api.OK},
		"until End":                 {high("a", 5), fine, api.End, api.OK},
		"until below 0":             {high("a", 5), fine, -1, api.ErrArg},
		"until after End":           {high("a", 5), fine, api.End + 1, api.ErrArg},
		"until the least int":       {high("a", 5), fine, math.MinInt, api.ErrArg},
		"until the greatest int":    {high("a", 5), fine, math.MaxInt, api.ErrArg},
		"a parent that is none":     {child(high("a", 5), "x"), fine, 5, api.OK},
		"its own parent":            {child(high("a", 5), "a"), fine, 5, api.OK},
		"a parent that is no key":   {child(high("a", 5), "X Y"), fine, 5, api.OK},
		"no key":                    {high("", 5), fine, 5, api.ErrName},
		"the alarm before samples":  {high("a", api.MaxValue+1), samples{{Quality: 3}}, -1, api.ErrArg},
		"the samples before until":  {high("a", 5), samples{{Quality: 3}}, -1, api.ErrKind},
		"the form of a bad one":     {with(high("a", 5), func(x *api.Alarm) { x.Kind = api.AlarmBad }), fine, 5, api.ErrForm},
		"samples out of order":      {high("a", 5), samples{good(5, 0), good(5, 0)}, 5, api.ErrOrder},
		"too many samples":          {high("a", 5), manySamples(api.MaxSamples + 1), 5, api.ErrLarge},
		"as many samples as can be": {high("a", 5), manySamples(api.MaxSamples), 0, api.OK},
	} {
		got, e := alarm.Active(c.x, c.l, c.until)
		same(t, name, e, c.want)
		if e != api.OK {
			same(t, name, got, "[]")
		}
	}
}

func TestP64Deadband(t *testing.T) {
	chatter := samples{good(0, 11), good(10, 10), good(20, 11), good(30, 9), good(40, 11), good(50, 5), good(60, 11)}
	low := with(high("a", 10), func(x *api.Alarm) { x.Kind = api.AlarmLow })
	wide := samples{good(0, api.MaxValue), good(1, -api.MaxValue), good(2, api.MaxValue)}
	for _, c := range []struct {
		what        string
		x           api.Alarm
		l           samples
		until, many int
		want        int
	}{
		{"four times", high("a", 10), chatter, 100, 4, 0},
		{"three times", high("a", 10), chatter, 100, 3, 1},
		{"twice", high("a", 10), chatter, 100, 2, 2},
		{"once", high("a", 10), chatter, 100, 1, 6},
		{"twice before until", high("a", 10), chatter, 40, 2, 0},
		{"once before until", high("a", 10), chatter, 40, 1, 1},
		{"becoming active just before until", high("a", 10), chatter, 41, 2, 1},
		{"its own deadband does not count", with(high("a", 10), func(x *api.Alarm) { x.Deadband = 9 }), chatter, 100, 2, 2},
		{"its own delays do", with(high("a", 10), func(x *api.Alarm) { x.Off = 10 }), chatter, 100, 1, 0},
		{"no samples", high("a", 10), nil, 100, 1, 0},
		{"until 0", high("a", 10), chatter, 0, 1, 0},
		{"a low one", low, samples{good(0, 9), good(10, 10), good(20, 9), good(30, 12), good(40, 9)}, 100, 1, 3},
		{"a low one, twice", low, samples{good(0, 9), good(10, 10), good(20, 9), good(30, 12), good(40, 9)}, 100, 2, 1},
		{"bad values do not clear", high("a", 10), samples{good(0, 11), bad(1), good(2, 11)}, 100, 1, 0},
		{"from end to end", high("a", api.MaxValue-1), wide, 100, 1, 2 * api.MaxValue},
		{"the least limit", high("a", -api.MaxValue), wide, 100, 1, 1},
		{"as often as can be", high("a", 5), manySamples(api.MaxSamples), api.End, api.MaxSamples, 0},
		{"very often", high("a", 5), manySamples(api.MaxSamples), api.End, api.MaxSamples/2 - 1, 6},
	} {
		n, is, e := alarm.Deadband(c.x, c.l, c.until, c.many)
		same(t, c.what, []any{n, is, e}, []any{c.want, true, api.OK})
	}
}

func TestP64DeadbandAsTheDocumentSays(t *testing.T) {
	r := rand.New(rand.NewSource(63))
	kinds := map[int]int{}
	for range 1500 {
		x, l, until, many := someAlarm(r, "a", "t"), someSamples(r, 40), r.Intn(45), 1+r.Intn(3)
		if x.Kind == api.AlarmBad {
			continue
		}
		// With a deadband of 9, no value of these samples clears.
		want := 0
		for ; want < 9; want++ {
			y := with(x, func(y *api.Alarm) { y.Deadband = want })
			if len(asWindows(told(y, l, until))) <= many {
				break
			}
		}
		kinds[want]++
		n, is, e := alarm.Deadband(x, l, until, many)
		same(t, fmt.Sprintf("%+v %v %d %d", x, l, until, many), []any{n, is, e}, []any{want, true, api.OK})
	}
	if kinds[0] < 100 || kinds[1] < 10 || kinds[2] < 10 || kinds[3] < 5 {
		t.Error(kinds)
	}
}

func TestP64DeadbandErrors(t *testing.T) {
	fine := samples{good(0, 11)}
	isBad := with(high("a", 0), func(x *api.Alarm) { x.Kind = api.AlarmBad })
	for name, c := range map[string]struct {
		x           api.Alarm
		l           samples
		until, many int
		want        api.Errno
	}{
		"until End":               {high("a", 5), fine, api.End, 1, api.OK},
		"until below 0":           {high("a", 5), fine, -1, 1, api.ErrArg},
		"until after End":         {high("a", 5), fine, api.End + 1, 1, api.ErrArg},
		"many 0":                  {high("a", 5), fine, 5, 0, api.ErrArg},
		"many below 0":            {high("a", 5), fine, 5, math.MinInt, api.ErrArg},
		"the greatest many":       {high("a", 5), fine, 5, api.MaxSamples, api.OK},
		"many too great":          {high("a", 5), fine, 5, api.MaxSamples + 1, api.ErrArg},
		"a bad one":               {isBad, fine, 5, 1, api.ErrKind},
		"a bad one before until":  {isBad, fine, -1, 1, api.ErrKind},
		"a bad one before many":   {isBad, fine, 5, 0, api.ErrKind},
		"samples before the kind": {isBad, samples{good(5, 0), good(5, 0)}, -1, 0, api.ErrOrder},
		"the alarm first":         {with(isBad, func(x *api.Alarm) { x.Limit = 1 }), samples{good(5, 0), good(5, 0)}, -1, 0, api.ErrForm},
		"a parent is not asked":   {child(high("a", 5), "x"), fine, 5, 1, api.OK},
		"no such kind":            {with(isBad, func(x *api.Alarm) { x.Kind = 4 }), fine, 5, 1, api.ErrKind},
		"a wrong own deadband":    {with(high("a", 5), func(x *api.Alarm) { x.Deadband = -1 }), fine, 5, 1, api.ErrArg},
	} {
		n, is, e := alarm.Deadband(c.x, c.l, c.until, c.many)
		same(t, name, []any{n, e}, []any{0, c.want})
		same(t, name, is, e == api.OK)
	}
}
