package batch_test

import (
	"fmt"
	"math/rand"
	"strings"
	"testing"

	"plantlog/api"
	"plantlog/batch"
)

func TestP85Text(t *testing.T) {
	for name, c := range map[string]struct {
		l    transfers
		want string
	}{
		"none":       {nil, ""},
		"one":        {moved("a c 30"), "a c 30\n"},
		"three":      {moved("a c 30", "b-1 c 10", "c d_2 5"), "a c 30\nb-1 c 10\nc d_2 5\n"},
		"the bounds": {transfers{transfer("a", longKey, 1), transfer(longKey, "b", api.MaxAmount)}, "a " + longKey + " 1\n" + longKey + " b 1000000\n"},
	} {
		got, e := batch.Text(c.l)
		same(t, name, []any{got, e}, []any{c.want, api.OK})
		l, line, e := batch.Read(c.want)
		same(t, name+", read", []any{l, line, e}, []any{c.l, 0, api.OK})
	}
	for name, c := range wrongTransfers {
		got, e := batch.Text(c.l)
		same(t, name, []any{got, e}, []any{"", c.want})
	}
}

func TestP85LongestText(t *testing.T) {
	l := chain(api.MaxTransfers)
	name := func(s string) string { return s + strings.Repeat("x", api.MaxName-len(s)) }
	for i, x := range l {
		l[i] = transfer(name(x.From), name(x.To), api.MaxAmount)
	}
	text, e := batch.Text(l)
	same(t, "the longest text", []any{len(text), e}, []any{api.MaxTransfers * (2*api.MaxName + 10), api.OK})
	got, line, e := batch.Read(text)
	same(t, "the longest text, read", fmt.Sprint(got, line, e), fmt.Sprint(l, 0, api.OK))
}

func TestP85TextAndRead(t *testing.T) {
	r := rand.New(rand.NewSource(103))
	for range 300 {
		l := someTransfers(r, 1+r.Intn(9), api.MaxAmount)
		text, e := batch.Text(l)
		same(t, "Text", e, api.OK)
		got, line, e := batch.Read(text)
		same(t, "Read", []any{got, line, e}, []any{l, 0, api.OK})
		same(t, "the lines of the text", moved(strings.Split(strings.TrimSuffix(text, "\n"), "\n")...)[:len(l)], l)
	}
}

func TestP85ReadSyntax(t *testing.T) {
	lines := []string{
		"", " ", "  ", "c", "c d", "c d ", "c  5", " d 5", "c d 5 ", " c d 5", "c  d 5", "c d  5", "c d 5 6", "c\td 5", "c d\t5", "c d 5\r", "c d e", "5 c d", "c 5 d",
	}
	for _, number := range []string{"x", "01", "+1", "-0", "-", "--1", "1.0", "1e3", "1_0", "0x1", "1234567890123456", "-1234567890123456", "0000000000000001", "99999999999999999999", "1\x00", "١"} {
		lines = append(lines, "c d "+number)
	}
	for _, line := range lines {
		for i, before := range []string{"", "a b 1\n", "a b 1\nA b 0\n"} {
			for _, after := range []string{"\n", "\nd e 3\n", "\nx\n"} {
				l, n, e := batch.Read(before + line + after)
				same(t, fmt.Sprintf("%q", before+line+after), []any{l, n, e}, []any{"[]", i, api.ErrSyntax})
			}
		}
	}
}

func TestP85ReadErrors(t *testing.T) {
	const line = "a b 1\n"
	for name, c := range map[string]struct {
		text string
		line int
		want api.Errno
	}{
		"no line feed":                     {"a b 1", 0, api.ErrSyntax},
		"no line feed at the end":          {line + "b c 1", 1, api.ErrSyntax},
		"an empty line":                    {line + "\n", 1, api.ErrSyntax},
		"too long":                         {strings.Repeat("x", api.MaxText+1), 0, api.ErrLarge},
		"as long as can be":                {strings.Repeat("x", api.MaxText), 0, api.ErrSyntax},
		"too long, though the lines are":   {strings.Repeat(line, api.MaxText/len(line)+1), 0, api.ErrLarge},
		"too many transfers":               {strings.Repeat(line, api.MaxTransfers+1), 0, api.ErrLarge},
		"as many as can be, out of order":  {strings.Repeat(line, api.MaxTransfers), 0, api.ErrOrder},
		"a wrong line after too many":      {strings.Repeat(line, api.MaxTransfers+1) + "x\n", api.MaxTransfers + 1, api.ErrSyntax},
		"From is no key":                   {"A b 1\n", 0, api.ErrName},
		"To is no key":                     {"a 1 1\n", 0, api.ErrName},
		"both are equal":                   {"a a 1\n", 0, api.ErrForm},
		"no Amount":                        {"a b 0\n", 0, api.ErrArg},
		"an Amount below 0":                {"a b -1\n", 0, api.ErrArg},
		"an Amount of 15 digits":           {"a b 123456789012345\n", 0, api.ErrArg},
		"an Amount of 15 digits, below 0":  {"a b -123456789012345\n", 0, api.ErrArg},
		"the same again":                   {line + line, 0, api.ErrOrder},
		"there and back":                   {line + "b a 1\n", 0, api.ErrLoop},
		"a wrong line after a wrong batch": {"A b 1\nx\n", 1, api.ErrSyntax},
	} {
		l, n, e := batch.Read(c.text)
		same(t, name, []any{l, n, e}, []any{"[]", c.line, c.want})
	}
}
