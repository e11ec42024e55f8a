package alarm_test

import (
	"fmt"
	"math/rand"
	"strings"
	"testing"

	"plantlog/alarm"
	"plantlog/api"
)

func TestP65Text(t *testing.T) {
	for name, c := range map[string]struct {
		l    alarms
		want string
	}{
		"none": {nil, ""},
		"one of each kind": {alarms{
			{Key: "a", Tag: "t", Kind: api.AlarmHigh, Limit: 10, Deadband: 2, On: 5, Off: 6, Priority: 7, Latched: true},
			{Key: "b-1", Tag: "u_2", Kind: api.AlarmLow, Limit: -10, Priority: 1, Parent: "c"},
			{Key: "c", Tag: "t", Kind: api.AlarmBad, Priority: 1_000, Parent: "a"},
		}, "a t high 10 2 5 6 7 1 -\nb-1 u_2 low -10 0 0 0 1 0 c\nc t bad 0 0 0 0 1000 0 a\n"},
		"the bounds": {alarms{
			{Key: "a", Tag: "t", Kind: api.AlarmHigh, Limit: -api.MaxValue, Deadband: 2 * api.MaxValue, On: api.MaxDelay, Off: api.MaxDelay, Priority: 1_000},
		}, "a t high -1000000 2000000 86400000 86400000 1000 0 -\n"},
	} {
		got, e := alarm.Text(c.l)
		same(t, name, []any{got, e}, []any{c.want, api.OK})
		l, line, e := alarm.Read(c.want)
		same(t, name+", read", []any{l, line, e}, []any{c.l, 0, api.OK})
	}
	got, e := alarm.Text(alarms{high("b", 1), high("a", 1)})
	same(t, "out of order", []any{got, e}, []any{"", api.ErrOrder})
	got, e = alarm.Text(alarms{child(high("b", 1), "a")})
	same(t, "a parent that is none", []any{got, e}, []any{"", api.ErrNone})
}

// TestP65LongestText: what Text writes of any alarms is not too long for Read.
func TestP65LongestText(t *testing.T) {
	l := make(alarms, api.MaxAlarms)
	for i := range l {
		name := fmt.Sprintf("%s%03d", strings.Repeat("k", api.MaxName-3), i)
		l[i] = api.Alarm{Key: name, Tag: name, Kind: api.AlarmHigh, Limit: -api.MaxValue, Deadband: 2 * api.MaxValue, On: api.MaxDelay, Off: api.MaxDelay, Priority: 1_000}
		if i > 0 {
			l[i].Parent = l[0].Key
		}
	}
	text, e := alarm.Text(l)
	same(t, "Text", e, api.OK)
	got, line, e := alarm.Read(text)
	same(t, "Read", fmt.Sprint(got, line, e), fmt.Sprint(l, 0, api.OK))
}

func TestP65TextAndRead(t *testing.T) {
	r := rand.New(rand.NewSource(67))
	for range 300 {
		x := someScene(r, 1)
		text, e := alarm.Text(x.l)
		same(t, "Text", e, api.OK)
		l, line, e := alarm.Read(text)
		same(t, "Read", []any{l, line, e}, []any{x.l, 0, api.OK})
	}
}

func TestP65ReadSyntax(t *testing.T) {
	lines := []string{"", " ", "a", "b t high 1 0 0 0 1 0", "b t high 1 0 0 0 1 0 - -", " b t high 1 0 0 0 1 0 -", "b t high 1 0 0 0 1 0 - ", "b  t high 1 0 0 0 1 0 -", "b t high 1 0 0 0 1 0  -",
		"b t high 1 0 0 0 1 0 ", "b  high 1 0 0 0 1 0 -", " t high 1 0 0 0 1 0 -", "b t  1 0 0 0 1 0 -", "b t high 1 0 0 0 1  -", "b\tt high 1 0 0 0 1 0 -",
		"b t High 1 0 0 0 1 0 -", "b t hig 1 0 0 0 1 0 -", "b t highs 1 0 0 0 1 0 -", "b t 1 1 0 0 0 1 0 -", "b t - 1 0 0 0 1 0 -", "t high b 1 0 0 0 1 0 -",
		"b t high 1 0 0 0 1 2 -", "b t high 1 0 0 0 1 -1 -", "b t high 1 0 0 0 1 true -", "b t high 1 0 0 0 1 - -", "b t high 1 0 0 0 1 00 -", "b t high 1 0 0 0 1 01 -",
	}
	for i := range 5 {
		for _, number := range []string{"x", "01", "+1", "-0", "-", "--1", "1.0", "1e3", "1_0", "0x1", "1234567890123456", "-1234567890123456", "0000000000000001", "99999999999999999999", "1\r", "1\x00", "١"} {
			words := strings.Split("b t high 1 0 0 0 1 0 -", " ")
			words[3+i] = number
			lines = append(lines, strings.Join(words, " "))
		}
	}
	for _, line := range lines {
		for i, before := range []string{"", "a t high 1 0 0 0 1 0 -\n", "a t high 1 0 0 0 1 0 -\na t low 1 0 0 0 1 0 x\n"} {
			for _, after := range []string{"\n", "\nc t high 1 0 0 0 1 0 -\n", "\nx\n"} {
				l, n, e := alarm.Read(before + line + after)
				same(t, fmt.Sprintf("%q", before+line+after), []any{l, n, e}, []any{"[]", i, api.ErrSyntax})
			}
		}
	}
}

func TestP65ReadErrors(t *testing.T) {
	const line = "a t high 1 0 0 0 1 0 -\n"
	for name, c := range map[string]struct {
		text string
		line int
		want api.Errno
	}{
		"no line feed":                  {strings.TrimSuffix(line, "\n"), 0, api.ErrSyntax},
		"no line feed at the end":       {line + "b t high 1 0 0 0 1 0 -", 1, api.ErrSyntax},
		"an empty line":                 {line + "\n", 1, api.ErrSyntax},
		"too long":                      {strings.Repeat("x", api.MaxText+1), 0, api.ErrLarge},
		"as long as can be":             {strings.Repeat("x", api.MaxText), 0, api.ErrSyntax},
		"too long, though all is well":  {strings.Repeat(line, api.MaxText/len(line)+1), 0, api.ErrLarge},
		"too many alarms":               {strings.Repeat(line, api.MaxAlarms+1), 0, api.ErrLarge},
		"a wrong line after too many":   {strings.Repeat(line, api.MaxAlarms+1) + "x\n", api.MaxAlarms + 1, api.ErrSyntax},
		"a key that is none":            {"A t high 1 0 0 0 1 0 -\n", 0, api.ErrName},
		"a key of a -":                  {"- t high 1 0 0 0 1 0 -\n", 0, api.ErrName},
		"a tag that is no key":          {"a 1 high 1 0 0 0 1 0 -\n", 0, api.ErrName},
		"a limit too great":             {"a t high 1000001 0 0 0 1 0 -\n", 0, api.ErrArg},
		"a number of 15 digits":         {"a t high 0 -123456789012345 0 0 1 0 -\n", 0, api.ErrArg},
		"a bad one with a limit":        {"a t bad 1 0 0 0 1 0 -\n", 0, api.ErrForm},
		"the same key again":            {line + line, 0, api.ErrOrder},
		"a parent that is none":         {"a t high 1 0 0 0 1 0 b\n", 0, api.ErrNone},
		"a parent that is no key":       {"a t high 1 0 0 0 1 0 --\n", 0, api.ErrNone},
		"its own parent":                {"a t high 1 0 0 0 1 0 a\n", 0, api.ErrLoop},
		"a wrong line after wrong keys": {"A t high 1 0 0 0 1 0 -\nx\n", 1, api.ErrSyntax},
	} {
		l, n, e := alarm.Read(c.text)
		same(t, name, []any{l, n, e}, []any{"[]", c.line, c.want})
	}
}
