package buffer_test

import (
	"cmp"
	"fmt"
	"math"
	"math/big"
	"math/rand"
	"slices"
	"testing"

	"plantlog/api"
	"plantlog/buffer"
)

// entries returns a clock; each two numbers are Node and Server of an entry.
func entries(moments ...int) clock {
	var c clock
	for pair := range slices.Chunk(moments, 2) {
		c = append(c, api.Clock{Node: pair[0], Server: pair[1]})
	}
	return c
}

// manyEntries returns a clock of n entries that is behind by a millisecond.
func manyEntries(n int) clock {
	c := make(clock, n)
	for i := range c {
		c[i] = api.Clock{Node: i, Server: i + 1}
	}
	return c
}

func TestP73CheckClock(t *testing.T) {
	for name, c := range map[string]struct {
		c    clock
		want api.Errno
	}{
		"no entries":                        {nil, api.OK},
		"one":                               {entries(5, 7), api.OK},
		"the bounds":                        {entries(0, api.MaxSkew, api.End-1, api.End-1-api.MaxSkew), api.OK},
		"the other bounds":                  {entries(api.MaxSkew, 0, api.End-1-api.MaxSkew, api.End-1), api.OK},
		"next to each other":                {entries(5, 7, 6, 8), api.OK},
		"Node is -1":                        {entries(-1, 0), api.ErrArg},
		"Node is the end":                   {entries(api.End, api.End-1), api.ErrArg},
		"Server is -1":                      {entries(0, -1), api.ErrArg},
		"Server is the end":                 {entries(api.End-1, api.End), api.ErrArg},
		"the least ints":                    {entries(math.MinInt, math.MinInt), api.ErrArg},
		"the greatest int and the least":    {entries(math.MaxInt, math.MinInt), api.ErrArg},
		"too far behind":                    {entries(5, api.MaxSkew+6), api.ErrArg},
		"too far ahead":                     {entries(api.MaxSkew+6, 5), api.ErrArg},
		"Node is not greater":               {entries(5, 7, 5, 8), api.ErrOrder},
		"Node is less":                      {entries(5, 7, 4, 8), api.ErrOrder},
		"Server is not greater":             {entries(5, 7, 6, 7), api.ErrOrder},
		"Server is less":                    {entries(5, 7, 6, 6), api.ErrOrder},
		"a wrong one after a wrong order":   {entries(5, 7, 5, 8, -1, 0), api.ErrOrder},
		"a wrong one before a wrong order":  {entries(5, 7, 6, -1, 5, 8), api.ErrArg},
		"a wrong one in a wrong order":      {entries(5, 7, -1, 0), api.ErrArg},
		"an order that is wrong at the end": {entries(5, 7, 6, 8, 7, 8), api.ErrOrder},
		"as many as can be":                 {manyEntries(api.MaxPackets), api.OK},
		"too many":                          {manyEntries(api.MaxPackets + 1), api.ErrLarge},
		"too many wrong ones":               {make(clock, api.MaxPackets+1), api.ErrLarge},
	} {
		same(t, name, buffer.CheckClock(c.c), c.want)
		got, e := buffer.Corrected(c.c, 0)
		if c.want != api.OK {
			same(t, "Corrected, "+name, []any{got, e}, []any{0, c.want})
			got, e = buffer.Corrected(c.c, -1)
			same(t, "Corrected before the moment, "+name, []any{got, e}, []any{0, c.want})
		}
	}
}

func TestP73Corrected(t *testing.T) {
	steady, slow, fast := entries(10, 25, 20, 35), entries(10, 10, 20, 40), entries(10, 10, 40, 20)
	long := entries(0, api.MaxSkew, api.End-1, api.End-1-api.MaxSkew)
	longer := entries(api.MaxSkew, 0, api.End-1-api.MaxSkew, api.End-1)
	for _, c := range []struct {
		name     string
		c        clock
		at, want int
		e        api.Errno
	}{
		{"without entries", nil, 5, 5, api.OK},
		{"without entries at 0", nil, 0, 0, api.OK},
		{"without entries at the last moment", nil, api.End - 1, api.End - 1, api.OK},
		{"before the only entry", entries(10, 25), 3, 18, api.OK},
		{"at the only entry", entries(10, 25), 10, 25, api.OK},
		{"after the only entry", entries(10, 25), 12, 27, api.OK},
		{"at the first entry", steady, 10, 25, api.OK},
		{"between", steady, 14, 29, api.OK},
		{"at the second entry", steady, 20, 35, api.OK},
		{"after all", steady, 21, 36, api.OK},
		{"a slow clock", slow, 11, 13, api.OK},
		{"after the entries of a slow clock", slow, 21, 41, api.OK},
		{"before the entries of a slow clock", slow, 3, 3, api.OK},
		{"a fast clock, rounded down", fast, 12, 10, api.OK},
		{"a fast clock, at a whole millisecond", fast, 13, 11, api.OK},
		{"a fast clock, rounded down far", fast, 39, 19, api.OK},
		{"after the entries of a fast clock", fast, 41, 21, api.OK},
		{"below 0", entries(10, 5), 4, 0, api.OK},
		{"at 0", entries(10, 5), 5, 0, api.OK},
		{"above 0", entries(10, 5), 6, 1, api.OK},
		{"far below 0", entries(api.MaxSkew, 0), 0, 0, api.OK},
		{"above the last moment", entries(5, 10), api.End - 5, api.End - 1, api.OK},
		{"at the last moment", entries(5, 10), api.End - 6, api.End - 1, api.OK},
		{"below the last moment", entries(5, 10), api.End - 7, api.End - 2, api.OK},
		{"far above the last moment", entries(0, api.MaxSkew), api.End - 1, api.End - 1, api.OK},
		{"a long time, at its beginning", long, 0, api.MaxSkew, api.OK},
		{"a long time, near its end", long, api.End - 2, api.End - 2 - api.MaxSkew, api.OK},
		{"a long time, at its end", long, api.End - 1, api.End - 1 - api.MaxSkew, api.OK},
		{"another long time, near its end", longer, api.End - 2 - api.MaxSkew, api.End - 3, api.OK},
		{"at -1", steady, -1, 0, api.ErrArg},
		{"at the end", steady, api.End, 0, api.ErrArg},
		{"at the least int", nil, math.MinInt, 0, api.ErrArg},
		{"at the greatest int", nil, math.MaxInt, 0, api.ErrArg},
	} {
		got, e := buffer.Corrected(c.c, c.at)
		same(t, c.name, []any{got, e}, []any{c.want, c.e})
	}
}

// someClock returns a valid clock with entries before about most.
func someClock(r *rand.Rand, n, most int) clock {
	var c clock
	for range n {
		x := api.Clock{Node: r.Intn(most), Server: r.Intn(most)}
		if most > api.MaxSkew {
			x.Server = min(max(x.Node+r.Intn(2*api.MaxSkew+1)-api.MaxSkew, 0), api.End-1)
		}
		c = append(c, x)
	}
	slices.SortFunc(c, func(x, y api.Clock) int { return cmp.Compare(x.Node, y.Node) })
	var valid clock
	for _, x := range c {
		if len(valid) == 0 || x.Node > valid[len(valid)-1].Node && x.Server > valid[len(valid)-1].Server {
			valid = append(valid, x)
		}
	}
	return valid
}

// onLine is a moment corrected as the document says, with numbers of any size.
func onLine(c clock, at int) int {
	got := at
	switch i := slices.IndexFunc(c, func(x api.Clock) bool { return x.Node > at }); {
	case len(c) == 0:
	case i == 0:
		got = at + c[0].Server - c[0].Node
	case i < 0:
		got = at + c[len(c)-1].Server - c[len(c)-1].Node
	default:
		p, n := c[i-1], c[i]
		part := new(big.Int).Mul(big.NewInt(int64(at-p.Node)), big.NewInt(int64(n.Server-p.Server)))
		// Div rounds down, if what it divides by is above 0.
		got = p.Server + int(part.Div(part, big.NewInt(int64(n.Node-p.Node))).Int64())
	}
	return min(max(got, 0), api.End-1)
}

func TestP73CorrectedAsTheDocumentSays(t *testing.T) {
	r := rand.New(rand.NewSource(77))
	for _, most := range []int{10, 40, 2 * api.MaxSkew, 10 * api.DayLong, api.End} {
		for range 500 {
			c := someClock(r, r.Intn(6), most)
			for range 10 {
				at := min(r.Intn(most+most/4), api.End-1)
				if len(c) > 0 && r.Intn(3) == 0 {
					at = c[r.Intn(len(c))].Node
				}
				got, e := buffer.Corrected(c, at)
				same(t, fmt.Sprintf("%v at %d", c, at), []any{got, e}, []any{onLine(c, at), api.OK})
			}
		}
	}
}

// TestP73CorrectedNeverGoesBack: later moments of a node are not earlier for the server.
func TestP73CorrectedNeverGoesBack(t *testing.T) {
	r := rand.New(rand.NewSource(78))
	for range 300 {
		c := someClock(r, r.Intn(6), 60)
		last := 0
		for at := range 80 {
			got, _ := buffer.Corrected(c, at)
			if got < last {
				t.Errorf("%v: %d at %d, after %d", c, got, at, last)
			}
			last = got
		}
	}
}

func TestP73Stored(t *testing.T) {
	l := arrivals{
		of("a", 1, 1, "t", good(10, 1)), of("a", 1, 2, "u", good(11, 2)), of("b", 2, 1, "t", good(12, 3)),
		of("b", 3, 2, "t", api.Sample{At: 5, Quality: api.Bad}), of("a", 4, 1, "t", good(10, 1)), of("c", 5, 1, "t", good(10, 5)),
	}
	for _, c := range []struct {
		name   string
		l      arrivals
		clocks clocks
		tag    string
		want   string
		left   []int
	}{
		{"nothing", nil, nil, "t", "[]", nil},
		{"a tag that never came", l, nil, "v", "[]", nil},
		{"another tag", l, nil, "u", "[{11 2 0}]", nil},
		{"without clocks", l, nil, "t", "[{5 0 2} {10 1 0} {12 3 0}]", []int{5}},
		{"with clocks of others", l, clocks{{Node: "x", Clock: entries(5, 9)}}, "t", "[{5 0 2} {10 1 0} {12 3 0}]", []int{5}},
		{"with an empty clock", l, clocks{{Node: "a"}}, "t", "[{5 0 2} {10 1 0} {12 3 0}]", []int{5}},
		{"with a clock", l, clocks{{Node: "b", Clock: entries(5, 3)}}, "t", "[{3 0 2} {10 1 0}]", []int{2, 5}},
		{"with three clocks", l, clocks{{Node: "a", Clock: entries(10, 15)}, {Node: "b", Clock: entries(5, 3, 12, 11)}, {Node: "c", Clock: entries(10, 11)}}, "t", "[{3 0 2} {11 3 0} {15 1 0}]", []int{5}},
		{"all at 0", l, clocks{{Node: "a", Clock: entries(20, 0)}, {Node: "b", Clock: entries(20, 0)}, {Node: "c", Clock: entries(20, 0)}}, "t", "[{0 1 0}]", []int{2, 3, 5}},
		{"the first one, though it is Bad", l[3:], clocks{{Node: "a", Clock: entries(10, 5)}}, "t", "[{5 0 2} {10 5 0}]", []int{1}},
		{"duplicates are not among those left", arrivals{of("a", 1, 1, "t", good(5, 1)), of("b", 2, 1, "t", good(5, 2)), of("a", 3, 1, "t", good(5, 1)), of("b", 4, 1, "t", good(5, 2))}, nil, "t", "[{5 1 0}]", []int{1}},
	} {
		got, left, e := buffer.Stored(c.l, c.clocks, c.tag)
		same(t, c.name, []any{fmt.Sprint(got), left, e}, []any{c.want, c.left, api.OK})
	}
}

func TestP73StoredErrors(t *testing.T) {
	nodes := make(clocks, api.MaxNodes)
	for i := range nodes {
		nodes[i].Node = fmt.Sprintf("n%02d", i)
	}
	for name, c := range map[string]struct {
		l      arrivals
		clocks clocks
		tag    string
		want   api.Errno
	}{
		"an arrival":               {arrivals{from("a", -1, 1)}, clocks{{}}, "T", api.ErrArg},
		"a conflict":               {arrivals{from("a", 1, 1), of("a", 2, 1, "t", good(5, 5))}, make(clocks, 51), "T", api.ErrConflict},
		"too many clocks":          {nil, make(clocks, api.MaxNodes+1), "T", api.ErrLarge},
		"as many clocks as can be": {nil, nodes, "t", api.OK},
		"a node that is no key":    {nil, clocks{{Node: "a"}, {Node: "A", Clock: entries(-1, 0)}}, "t", api.ErrName},
		"a node twice":             {nil, clocks{{Node: "a"}, {Node: "a", Clock: entries(-1, 0)}}, "T", api.ErrOrder},
		"a lesser node":            {nil, clocks{{Node: "b"}, {Node: "a"}}, "t", api.ErrOrder},
		"a wrong clock":            {nil, clocks{{Node: "a"}, {Node: "b", Clock: entries(-1, 0)}, {}}, "T", api.ErrArg},
		"a clock in a wrong order": {nil, clocks{{Node: "a", Clock: entries(1, 1, 1, 2)}, {Node: "a"}}, "T", api.ErrOrder},
		"too many entries":         {nil, clocks{{Node: "a", Clock: manyEntries(api.MaxPackets + 1)}}, "T", api.ErrLarge},
		"a tag that is no key":     {arrivals{from("a", 1, 1)}, clocks{{Node: "a", Clock: manyEntries(api.MaxPackets)}}, "T", api.ErrName},
		"no tag":                   {arrivals{from("a", 1, 1)}, nil, "", api.ErrName},
		"a tag that never came":    {arrivals{from("a", 1, 1)}, nil, "tt", api.OK},
	} {
		got, left, e := buffer.Stored(c.l, c.clocks, c.tag)
		same(t, name, []any{got, left, e}, []any{"[]", "[]", c.want})
	}
}

func TestP73StoredAsTheDocumentSays(t *testing.T) {
	r := rand.New(rand.NewSource(79))
	for range 1000 {
		l := someArrivals(r, r.Intn(30))
		var c clocks
		for _, node := range []string{"a", "b", "d"} {
			if r.Intn(3) > 0 {
				c = append(c, api.NodeClock{Node: node, Clock: someClock(r, r.Intn(4), 13)})
			}
		}
		var want samples
		var left []int
		for i, x := range l {
			if before(l, i) || x.Packet.Tag != "t" {
				continue
			}
			y := x.Packet.Sample
			for _, z := range c {
				if z.Node == x.Node {
					y.At, _ = buffer.Corrected(z.Clock, y.At)
				}
			}
			if slices.ContainsFunc(want, func(z api.Sample) bool { return z.At == y.At }) {
				left = append(left, i)
				continue
			}
			want = append(want, y)
		}
		slices.SortFunc(want, func(x, y api.Sample) int { return cmp.Compare(x.At, y.At) })
		got, not, e := buffer.Stored(l, c, "t")
		same(t, fmt.Sprint(l, c), []any{got, not, e}, []any{want, left, api.OK})
	}
}

// TestP73DuplicatesChangeNothing: what arrives again, later, does not change what is stored.
func TestP73DuplicatesChangeNothing(t *testing.T) {
	r := rand.New(rand.NewSource(80))
	for range 500 {
		l := someArrivals(r, r.Intn(30))
		again := slices.Clone(l)
		for range r.Intn(9) {
			if len(l) > 0 {
				x := l[r.Intn(len(l))]
				x.At += r.Intn(9)
				merged, e := buffer.Merge(again, arrivals{x})
				same(t, "Merge", e, api.OK)
				again = merged
			}
		}
		c := clocks{{Node: "a", Clock: someClock(r, 3, 13)}}
		got, _, _ := buffer.Stored(again, c, "t")
		want, _, _ := buffer.Stored(l, c, "t")
		same(t, "with duplicates", got, want)
	}
}
