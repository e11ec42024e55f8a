package retain_test

import (
	"fmt"
	"math/rand"
	"strings"
	"testing"

	"plantlog/api"
	"plantlog/retain"
)

func TestP95Text(t *testing.T) {
	for name, c := range map[string]struct {
		b    bins
		step int
		want string
	}{
		"none":         {nil, 10, ""},
		"one":          {bins{bin(0, 12, 2, 1, 5, 7)}, 100, "0 12 2 1 5 7\n"},
		"two":          {bins{bin(0, 12, 2, 1, 5, 7), bin(200, -1, 1, 0, -1, -1)}, 100, "0 12 2 1 5 7\n200 -1 1 0 -1 -1\n"},
		"others":       {bins{bin(50, 0, 0, 3, 0, 0)}, 10, "50 0 0 3 0 0\n"},
		"the greatest": {bins{bin(api.End-1, most*api.MaxValue, most, most, -api.MaxValue, api.MaxValue)}, 1, "345686399999 5000000000000 5000000 5000000 -1000000 1000000\n"},
		"the least":    {bins{bin(0, -most*api.MaxValue, most, 0, -api.MaxValue, -api.MaxValue)}, api.DayLong, "0 -5000000000000 5000000 0 -1000000 -1000000\n"},
	} {
		got, e := retain.Text(c.b, c.step)
		same(t, name, []any{got, e}, []any{c.want, api.OK})
		b, line, e := retain.Read(c.step, c.want)
		same(t, name+", read", []any{b, line, e}, []any{c.b, 0, api.OK})
	}
}

// wide returns n bins with lines of 55 bytes each.
func wide(n int) bins {
	b := make(bins, n)
	for i := range b {
		b[i] = bin(100_000_000_000+i, -4_999_999_999_999, most, most-i, -api.MaxValue, 0)
	}
	return b
}

func TestP95TextErrors(t *testing.T) {
	for name, c := range wrongBins {
		got, e := retain.Text(c.b, 10)
		same(t, name, []any{got, e}, []any{"", c.want})
	}
	for _, step := range noSteps {
		got, e := retain.Text(nil, step)
		same(t, fmt.Sprint("step ", step), []any{got, e}, []any{"", api.ErrArg})
	}
	// 3,635 lines have 199,925 bytes: lines of 23 and 52 bytes make the text as long as can be.
	b := append(wide(3635), bin(200_000_000_000, 5, 1, 0, 5, 5), bin(200_000_000_001, -4_999_999_999_999, most, 4999, -api.MaxValue, 0))
	text, e := retain.Text(b, 1)
	same(t, "as long as can be", []any{len(text), e}, []any{api.MaxText, api.OK})
	got, line, e := retain.Read(1, text)
	same(t, "as long as can be, read", fmt.Sprint(got, line, e), fmt.Sprint(b, 0, api.OK))
	b[3635].Other = 10
	text, e = retain.Text(b, 1)
	same(t, "too long", []any{text, e}, []any{"", api.ErrLarge})
	text, e = retain.Text(wide(api.MaxBins), 1)
	same(t, "many", []any{text, e}, []any{"", api.ErrLarge})
	text, e = retain.Text(fullBins(api.MaxBins, 1), 1)
	same(t, "many short ones", []any{strings.Count(text, "\n"), e}, []any{api.MaxBins, api.OK})
}

func TestP95TextAndRead(t *testing.T) {
	r := rand.New(rand.NewSource(122))
	for range 500 {
		step := divisors[r.Intn(len(divisors))]
		b, _ := retain.Bins(someSamples(r, 60), step)
		text, e := retain.Text(b, step)
		same(t, "Text", e, api.OK)
		want := ""
		for _, x := range b {
			want += fmt.Sprintln(x.From, x.Sum, x.Count, x.Other, x.Low, x.High)
		}
		same(t, "the text", text, want)
		got, line, e := retain.Read(step, text)
		same(t, "Read", []any{got, line, e}, []any{b, 0, api.OK})
	}
}

func TestP95ReadSyntax(t *testing.T) {
	lines := []string{
		"", " ", "0", "0 12 2 1 5", "0 12 2 1 5 7 8", "0 12 2 1 5 ", " 12 2 1 5 7", "0  2 1 5 7", "0 12  1 5 7", "0 12 2  5 7", "0 12 2 1  7",
		"0 12 2 1 5 7 ", " 0 12 2 1 5 7", "0  12 2 1 5 7", "0 12 2 1 5  7", "0\t12 2 1 5 7", "0 12 2 1 5 7\r", "0 12 2 1 5 7\t", "x", "0,12,2,1,5,7",
	}
	wrong := []string{"x", "01", "00", "+1", "-0", "-", "--1", "1.0", "1e3", "1_0", "0x1", "9223372036854775808", "-9223372036854775809", "9999999999999999999", "12345678901234567890", "-12345678901234567890", "00000000000000000001", "1\x00", "١"}
	for place := range 6 {
		for _, number := range wrong {
			words := strings.Split("0 12 2 1 5 7", " ")
			words[place] = number
			lines = append(lines, strings.Join(words, " "))
		}
	}
	for _, line := range lines {
		for i, before := range []string{"", "0 5 1 0 5 5\n", "0 5 1 0 5 5\n5 0 0 0 0 0\n"} {
			for _, after := range []string{"\n", "\n20 0 0 1 0 0\n", "\nx\n"} {
				b, n, e := retain.Read(10, before+line+after)
				same(t, fmt.Sprintf("%q", before+line+after), []any{b, n, e}, []any{"[]", i, api.ErrSyntax})
			}
		}
	}
}

func TestP95ReadErrors(t *testing.T) {
	const line = "0 5 1 0 5 5\n"
	for name, c := range map[string]struct {
		text string
		line int
		want api.Errno
	}{
		"no line feed":                  {"0 5 1 0 5 5", 0, api.ErrSyntax},
		"no line feed at the end":       {line + "10 5 1 0 5 5", 1, api.ErrSyntax},
		"an empty line":                 {line + "\n", 1, api.ErrSyntax},
		"too long":                      {strings.Repeat("x", api.MaxText+1), 0, api.ErrLarge},
		"as long as can be":             {strings.Repeat("x", api.MaxText), 0, api.ErrSyntax},
		"too long, though lines":        {strings.Repeat(line, api.MaxText/len(line)+1), 0, api.ErrLarge},
		"too many bins":                 {strings.Repeat(line, api.MaxBins+1), 0, api.ErrLarge},
		"as many as can be, twice":      {strings.Repeat(line, api.MaxBins), 0, api.ErrOrder},
		"a wrong line after too many":   {strings.Repeat(line, api.MaxBins+1) + "x\n", api.MaxBins + 1, api.ErrSyntax},
		"a wrong line after no samples": {"0 0 0 0 0 0\nx\n", 1, api.ErrSyntax},
		"no moment":                     {"-10 5 1 0 5 5\n", 0, api.ErrArg},
		"no multiple":                   {"5 5 1 0 5 5\n", 0, api.ErrArg},
		"no samples":                    {"0 0 0 0 0 0\n", 0, api.ErrNone},
		"a Sum too great":               {"0 6 1 0 5 5\n", 0, api.ErrForm},
		"the greatest Sum":              {"0 9223372036854775807 1 0 5 5\n", 0, api.ErrForm},
		"the least Sum":                 {"0 -9223372036854775808 1 0 5 5\n", 0, api.ErrForm},
		"the greatest From":             {"9223372036854775807 5 1 0 5 5\n", 0, api.ErrArg},
		"the least From":                {"-9223372036854775808 5 1 0 5 5\n", 0, api.ErrArg},
		"the greatest Count":            {"0 5 9223372036854775807 0 5 5\n", 0, api.ErrArg},
		"the greatest Other":            {"0 5 1 9223372036854775807 5 5\n", 0, api.ErrArg},
		"the greatest Low":              {"0 5 1 0 9223372036854775807 5\n", 0, api.ErrArg},
		"the least High":                {"0 5 1 0 5 -9223372036854775808\n", 0, api.ErrArg},
		"out of order":                  {"10 5 1 0 5 5\n0 5 1 0 5 5\n", 0, api.ErrOrder},
	} {
		b, n, e := retain.Read(10, c.text)
		same(t, name, []any{b, n, e}, []any{"[]", c.line, c.want})
	}
	for _, step := range noSteps {
		for _, text := range []string{"", "x", line, strings.Repeat("x", api.MaxText+1)} {
			b, n, e := retain.Read(step, text)
			same(t, fmt.Sprintf("step %d, %.20q", step, text), []any{b, n, e}, []any{"[]", 0, api.ErrArg})
		}
	}
}
