package buffer_test

import (
	"fmt"
	"math/rand"
	"strings"
	"testing"

	"plantlog/api"
	"plantlog/buffer"
	"plantlog/sample"
)

func TestP74Text(t *testing.T) {
	long := strings.Repeat("n", api.MaxName)
	for name, c := range map[string]struct {
		l    arrivals
		want string
	}{
		"none": {nil, ""},
		"the qualities": {arrivals{
			of("n", 10, 1, "t", good(5, 50)),
			of("n", 20, 2, "u-1", api.Sample{At: 6, Value: -7, Quality: api.Uncertain}),
			of("o_2", 20, 1, "t", api.Sample{At: 30, Quality: api.Bad}),
		}, "n 10 1 t 5 50 good\nn 20 2 u-1 6 -7 uncertain\no_2 20 1 t 30 0 bad\n"},
		"the bounds": {arrivals{
			of("a", 0, api.MaxSeq, "bad", good(0, api.MaxValue)),
			of(long, api.End-1, 1, long, good(api.End-1, -api.MaxValue)),
		}, "a 0 1000000 bad 0 1000000 good\n" + long + " 345686399999 1 " + long + " 345686399999 -1000000 good\n"},
	} {
		got, e := buffer.Text(c.l)
		same(t, name, []any{got, e}, []any{c.want, api.OK})
		l, line, e := buffer.Read(c.want)
		same(t, name+", read", []any{l, line, e}, []any{c.l, 0, api.OK})
	}
	got, e := buffer.Text(arrivals{from("a", 2, 1), from("a", 1, 1)})
	same(t, "out of order", []any{got, e}, []any{"", api.ErrOrder})
	got, e = buffer.Text(manyArrivals(api.MaxPackets+1, 1))
	same(t, "too many", []any{got, e}, []any{"", api.ErrLarge})
}

// longArrivals returns arrivals with texts of 100 bytes, but for the last one, which has a text of `last` bytes.
func longArrivals(last int) arrivals {
	l := make(arrivals, api.MaxPackets)
	for i := range l {
		l[i] = of("n", 10_000+i, 10_000+i, strings.Repeat("t", api.MaxName), good(100_000_000_000, 1))
		l[i].Node = strings.Repeat("n", 100-len(" 10000 10000  100000000000 1 good\n")-api.MaxName)
	}
	l[len(l)-1].Packet.Tag = strings.Repeat("t", api.MaxName-100+last)
	return l
}

func TestP74LongestText(t *testing.T) {
	shorter, e := buffer.Text(longArrivals(99))
	same(t, "a byte less", []any{len(shorter), e}, []any{api.MaxText - 1, api.OK})
	text, e := buffer.Text(longArrivals(100))
	same(t, "the longest text", []any{len(text), e}, []any{api.MaxText, api.OK})
	l, line, e := buffer.Read(text)
	same(t, "the longest text, read", fmt.Sprint(l, line, e), fmt.Sprint(longArrivals(100), 0, api.OK))
	longer := longArrivals(100)
	longer[0].Packet.Sample.Value = 10
	text, e = buffer.Text(longer)
	same(t, "a byte more", []any{text, e}, []any{"", api.ErrLarge})
	longer[5] = longer[4]
	_, e = buffer.Text(longer)
	same(t, "a wrong order in what is too long", e, api.ErrOrder)
}

func TestP74TextAndRead(t *testing.T) {
	r := rand.New(rand.NewSource(81))
	for range 300 {
		l := someArrivals(r, r.Intn(20))
		text, e := buffer.Text(l)
		same(t, "Text", e, api.OK)
		got, line, e := buffer.Read(text)
		same(t, "Read", []any{got, line, e}, []any{l, 0, api.OK})
		lines := strings.SplitAfter(text, "\n")
		for i, x := range l {
			end, _ := sample.Text(samples{x.Packet.Sample})
			same(t, "a line", lines[i], fmt.Sprintf("%s %d %d %s %s", x.Node, x.At, x.Packet.Seq, x.Packet.Tag, end))
		}
	}
}

func TestP74ReadSyntax(t *testing.T) {
	lines := []string{
		"", " ", "b", "n 9 2 t 5 50", "n 9 2 t 5 50 good good", "n 9 2 t 5 50 good ", " n 9 2 t 5 50 good", "n  9 2 t 5 50 good", "n 9 2 t 5 50  good", "n 9 2 t  5 50 good",
		" 9 2 t 5 50 good", "n 9 2  5 50 good", "n 9 2 t 5 50 ", "n 9 2 t 5  good", "n  2 t 5 50 good", "n\t9 2 t 5 50 good", "n 9 2 t 5 50 good\r",
		"n 9 2 t 5 50 Good", "n 9 2 t 5 50 0", "n 9 2 t 5 50 goo", "n 9 2 t 5 50 goods", "n 9 2 5 50 t good", "9 n 2 t 5 50 good",
	}
	for _, i := range []int{1, 2, 4, 5} {
		for _, number := range []string{"x", "01", "+1", "-0", "-", "--1", "1.0", "1e3", "1_0", "0x1", "1234567890123456", "-1234567890123456", "0000000000000001", "99999999999999999999", "1\x00", "١"} {
			words := strings.Split("n 9 2 t 5 50 good", " ")
			words[i] = number
			lines = append(lines, strings.Join(words, " "))
		}
	}
	for _, line := range lines {
		for i, before := range []string{"", "n 8 1 t 5 50 good\n", "n 8 1 t 5 50 good\nn 7 0 T 5 50 good\n"} {
			for _, after := range []string{"\n", "\nn 10 3 t 5 50 good\n", "\nx\n"} {
				l, n, e := buffer.Read(before + line + after)
				same(t, fmt.Sprintf("%q", before+line+after), []any{l, n, e}, []any{"[]", i, api.ErrSyntax})
			}
		}
	}
}

func TestP74ReadErrors(t *testing.T) {
	const line = "n 8 1 t 5 50 good\n"
	nodes := ""
	for i := range api.MaxNodes + 1 {
		nodes += fmt.Sprintf("n%d %d 1 t 5 50 good\n", i, i)
	}
	for name, c := range map[string]struct {
		text string
		line int
		want api.Errno
	}{
		"no line feed":                    {strings.TrimSuffix(line, "\n"), 0, api.ErrSyntax},
		"no line feed at the end":         {line + "n 9 2 t 5 50 good", 1, api.ErrSyntax},
		"an empty line":                   {line + "\n", 1, api.ErrSyntax},
		"too long":                        {strings.Repeat("x", api.MaxText+1), 0, api.ErrLarge},
		"as long as can be":               {strings.Repeat("x", api.MaxText), 0, api.ErrSyntax},
		"too long, though all is well":    {strings.Repeat(line, api.MaxText/len(line)+1), 0, api.ErrLarge},
		"too many arrivals":               {strings.Repeat(line, api.MaxPackets+1), 0, api.ErrLarge},
		"a wrong line after too many":     {strings.Repeat(line, api.MaxPackets+1) + "x\n", api.MaxPackets + 1, api.ErrSyntax},
		"a node that is no key":           {"N 8 1 t 5 50 good\n", 0, api.ErrName},
		"a moment that is none":           {"n -8 1 t 5 50 good\n", 0, api.ErrArg},
		"a moment of 15 digits":           {"n 123456789012345 1 t 5 50 good\n", 0, api.ErrArg},
		"a number 0":                      {"n 8 0 t 5 50 good\n", 0, api.ErrArg},
		"a number of 15 digits":           {"n 8 -123456789012345 t 5 50 good\n", 0, api.ErrArg},
		"a tag that is no key":            {"n 8 1 1 5 50 good\n", 0, api.ErrName},
		"a sample at no moment":           {"n 8 1 t -5 50 good\n", 0, api.ErrArg},
		"a value too great":               {"n 8 1 t 5 123456789012345 good\n", 0, api.ErrArg},
		"a Bad one with a value":          {"n 8 1 t 5 50 bad\n", 0, api.ErrForm},
		"the same again":                  {line + line, 0, api.ErrOrder},
		"too many nodes":                  {nodes, 0, api.ErrLarge},
		"a conflict":                      {line + "n 9 1 t 5 51 good\n", 0, api.ErrConflict},
		"a wrong line after a wrong node": {"N 8 1 t 5 50 good\nx\n", 1, api.ErrSyntax},
	} {
		l, n, e := buffer.Read(c.text)
		same(t, name, []any{l, n, e}, []any{"[]", c.line, c.want})
	}
}
