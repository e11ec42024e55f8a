package sample_test

import (
	"fmt"
	"math/rand"
	"strings"
	"testing"

	"plantlog/api"
	"plantlog/sample"
)

func TestP15Text(t *testing.T) {
	for name, c := range map[string]struct {
		l    series
		want string
	}{
		"no samples":  {nil, ""},
		"one of each": {series{good(0, 0), uncertain(10, -5), bad(20)}, "0 0 good\n10 -5 uncertain\n20 0 bad\n"},
		"the bounds":  {series{good(0, -api.MaxValue), good(api.End-1, api.MaxValue)}, "0 -1000000 good\n345686399999 1000000 good\n"},
	} {
		got, e := sample.Text(c.l)
		same(t, name, []any{got, e}, []any{c.want, api.OK})
		l, line, e := sample.Read(c.want)
		same(t, name+", read", []any{l, line, e}, []any{c.l, 0, api.OK})
	}
	got, e := sample.Text(series{good(2, 1), good(1, 1)})
	same(t, "out of order", []any{got, e}, []any{"", api.ErrOrder})
}

// TestP15LongestText: what Text writes of any series is not too long for Read.
func TestP15LongestText(t *testing.T) {
	l := long(api.MaxSamples, api.End-api.MaxSamples, 1)
	for i := range l {
		l[i].Value, l[i].Quality = -api.MaxValue, api.Uncertain
	}
	text, e := sample.Text(l)
	same(t, "Text", []any{len(text), e}, []any{32 * api.MaxSamples, api.OK})
	got, line, e := sample.Read(text)
	same(t, "Read", []any{got, line, e}, []any{l, 0, api.OK})
}

func TestP15TextAndRead(t *testing.T) {
	r := rand.New(rand.NewSource(8))
	for range 100 {
		l := someSeries(r, 20)
		text, e := sample.Text(l)
		same(t, "Text", e, api.OK)
		got, line, e := sample.Read(text)
		same(t, "Read", []any{got, line, e}, []any{l, 0, api.OK})
	}
}

func TestP15ReadSyntax(t *testing.T) {
	for _, line := range []string{
		"", " ", "1", "1 2", "1 2 good ", " 1 2 good", "1  2 good", "1 2  good", "1 2 good good", "1\t2 good", "1 2 good\r",
		"1 2 Good", "1 2 goo", "1 2 goodbad", "1 2 0", "1 2 ", "good 1 2", "1 good 2",
		"x 2 good", "1 x good", " 2 good", "1  good", "01 2 good", "1 02 good", "+1 2 good", "1 +2 good", "-0 2 good", "1 -0 good", "1 -02 good",
		"1 - good", "1 --2 good", "1.0 2 good", "1 2e3 good", "0x1 2 good", "1_0 2 good", "1,000 2 good",
		"1234567890123456 2 good", "1 1234567890123456 good", "1 -1234567890123456 good", "1 0000000000000001 good", "1 99999999999999999999 good",
		"1 2 good\x00", "\x001 2 good", "1 2 good\xff", "١ 2 good", "-- -- --",
	} {
		for i, before := range []string{"", "0 7 good\n", "0 7 good\n0 8 uncertain\n"} {
			for _, after := range []string{"\n", "\n9 9 good\n", "\nx\n"} {
				l, n, e := sample.Read(before + line + after)
				same(t, fmt.Sprintf("%q", before+line+after), []any{l, n, e}, []any{series{}, i, api.ErrSyntax})
			}
		}
	}
}

func TestP15ReadErrors(t *testing.T) {
	tooLong := strings.Repeat("1", api.MaxText+1)
	for name, c := range map[string]struct {
		text string
		line int
		want api.Errno
	}{
		"no line feed":                    {"1 2 good", 0, api.ErrSyntax},
		"no line feed at the end":         {"1 2 good\n2 2 good", 1, api.ErrSyntax},
		"a line feed too many":            {"1 2 good\n\n", 1, api.ErrSyntax},
		"a line feed alone":               {"\n", 0, api.ErrSyntax},
		"the first of two":                {"1 2 good\nx\ny\n", 1, api.ErrSyntax},
		"too long":                        {tooLong, 0, api.ErrLarge},
		"as long as may be":               {tooLong[1:], 0, api.ErrSyntax},
		"syntax before the series":        {"-1 2 good\n0 0 good\nx\n", 2, api.ErrSyntax},
		"fifteen digits":                  {"999999999999999 0 good\n", 0, api.ErrArg},
		"fifteen digits below 0":          {"0 -999999999999999 good\n", 0, api.ErrArg},
		"no moment":                       {"-1 2 good\n", 0, api.ErrArg},
		"a value too great":               {"1 2 good\n2 1000001 good\n", 0, api.ErrArg},
		"bad with a value":                {"1 2 good\n2 1 bad\n", 0, api.ErrForm},
		"twice the same moment":           {"1 2 good\n1 2 good\n", 0, api.ErrOrder},
		"too many samples":                {strings.Repeat("1 2 good\n", api.MaxSamples+1), 0, api.ErrLarge},
		"too many lines, one of them bad": {strings.Repeat("1 2 good\n", api.MaxSamples+1) + "x\n", api.MaxSamples + 1, api.ErrSyntax},
	} {
		l, line, e := sample.Read(c.text)
		same(t, name, []any{l, line, e}, []any{series{}, c.line, c.want})
	}
}
