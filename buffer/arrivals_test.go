package buffer_test

import (
	"cmp"
	"fmt"
	"math"
	"math/rand"
	"slices"
	"strings"
	"testing"

	"plantlog/api"
	"plantlog/buffer"
)

// from returns an arrival of a packet that tells from which one it is.
func from(node string, at, seq int) api.Arrival {
	return api.Arrival{Node: node, At: at, Packet: api.Packet{Seq: seq, Tag: "t", Sample: good(seq, seq)}}
}

// of returns an arrival with a sample of a tag.
func of(node string, at, seq int, tag string, x api.Sample) api.Arrival {
	return api.Arrival{Node: node, At: at, Packet: api.Packet{Seq: seq, Tag: tag, Sample: x}}
}

func byOrder(x, y api.Arrival) int {
	return cmp.Or(cmp.Compare(x.At, y.At), cmp.Compare(x.Node, y.Node), cmp.Compare(x.Packet.Seq, y.Packet.Seq))
}

// manyArrivals returns n arrivals from as many nodes, with n different packets.
func manyArrivals(n, nodes int) arrivals {
	l := make(arrivals, n)
	for i := range l {
		l[i] = from(fmt.Sprintf("n%06d", i%nodes), i, i+1)
	}
	return l
}

func TestP72CheckArrivals(t *testing.T) {
	with := func(change func(x *api.Arrival)) api.Arrival {
		x := from("n", 5, 1)
		change(&x)
		return x
	}
	for name, c := range map[string]struct {
		x    api.Arrival
		want api.Errno
	}{
		"ordinary":                       {from("n", 5, 1), api.OK},
		"the bounds":                     {of(strings.Repeat("n", api.MaxName), api.End-1, api.MaxSeq, strings.Repeat("t", api.MaxName), good(api.End-1, -api.MaxValue)), api.OK},
		"at 0, long before its sample":   {of("n", 0, 1, "t", good(api.End-1, 0)), api.OK},
		"no node":                        {from("", 5, 1), api.ErrName},
		"a node that is no key":          {from("N", 5, 1), api.ErrName},
		"a node too long":                {from(strings.Repeat("n", api.MaxName+1), 5, 1), api.ErrName},
		"a node before a moment":         {from("-", -1, 0), api.ErrName},
		"at -1":                          {from("n", -1, 1), api.ErrArg},
		"at the end":                     {from("n", api.End, 1), api.ErrArg},
		"at the least int":               {from("n", math.MinInt, 1), api.ErrArg},
		"number 0":                       {of("n", 5, 0, "t", good(5, 5)), api.ErrArg},
		"number -1":                      {of("n", 5, -1, "t", good(5, 5)), api.ErrArg},
		"a number too great":             {of("n", 5, api.MaxSeq+1, "t", good(5, 5)), api.ErrArg},
		"the greatest int as the number": {of("n", 5, math.MaxInt, "t", good(5, 5)), api.ErrArg},
		"a moment before a tag":          {of("n", -1, 1, "T", good(5, 5)), api.ErrArg},
		"a number before a tag":          {of("n", 1, 0, "T", good(5, 5)), api.ErrArg},
		"no tag":                         {with(func(x *api.Arrival) { x.Packet.Tag = "" }), api.ErrName},
		"a tag before a sample":          {of("n", 1, 1, "T", good(-1, 5)), api.ErrName},
		"a sample at no moment":          {of("n", 1, 1, "t", good(-1, 5)), api.ErrArg},
		"a sample of no quality":         {with(func(x *api.Arrival) { x.Packet.Sample.Quality = -1 }), api.ErrKind},
		"a Bad sample with a value":      {with(func(x *api.Arrival) { x.Packet.Sample.Quality = api.Bad }), api.ErrForm},
	} {
		same(t, name, buffer.CheckArrivals(arrivals{c.x}), c.want)
		if c.want != api.OK {
			same(t, name+", before another error", buffer.CheckArrivals(arrivals{c.x, {}, from("n", 5, -1)}), c.want)
			same(t, name+", in spite of its place", buffer.CheckArrivals(arrivals{from("z", api.End-1, 9), c.x}), c.want)
		}
	}
}

func TestP72CheckArrivalsTogether(t *testing.T) {
	twoLike := manyArrivals(api.MaxPackets, api.MaxNodes)
	twoLike[api.MaxNodes].Packet = twoLike[0].Packet
	conflict := slices.Clone(twoLike)
	conflict[api.MaxNodes].Packet.Sample.Value++
	for name, c := range map[string]struct {
		l    arrivals
		want api.Errno
	}{
		"none":                             {nil, api.OK},
		"by At":                            {arrivals{from("z", 1, 9), from("a", 2, 1)}, api.OK},
		"by At, wrong":                     {arrivals{from("a", 2, 1), from("z", 1, 9)}, api.ErrOrder},
		"by Node":                          {arrivals{from("a", 1, 9), from("b", 1, 1)}, api.OK},
		"by Node, wrong":                   {arrivals{from("b", 1, 1), from("a", 1, 9)}, api.ErrOrder},
		"by Node, byte by byte":            {arrivals{from("a", 1, 1), from("a-", 1, 1), from("a1", 1, 1), from("a_", 1, 1), from("aa", 1, 1)}, api.OK},
		"by Seq":                           {arrivals{from("a", 1, 9), from("a", 1, 10)}, api.OK},
		"by Seq, wrong":                    {arrivals{from("a", 1, 10), from("a", 1, 9)}, api.ErrOrder},
		"equal ones":                       {arrivals{from("a", 1, 1), from("a", 1, 1)}, api.ErrOrder},
		"two packets at one place":         {arrivals{from("a", 1, 1), of("a", 1, 1, "u", good(1, 1))}, api.ErrOrder},
		"an order wrong later":             {arrivals{from("a", 1, 1), from("a", 3, 2), from("a", 2, 3)}, api.ErrOrder},
		"a wrong one after a wrong order":  {arrivals{from("a", 2, 1), from("a", 1, 2), {}}, api.ErrOrder},
		"a wrong one before a wrong order": {arrivals{from("a", 2, 1), {}, from("a", 1, 2)}, api.ErrName},
		"a packet twice":                   {arrivals{from("a", 1, 1), from("a", 2, 1), from("a", 9, 1)}, api.OK},
		"a number of two nodes":            {arrivals{from("a", 1, 1), of("b", 2, 1, "u", good(7, 7))}, api.OK},
		"two tags":                         {arrivals{from("a", 1, 1), of("a", 2, 1, "u", good(1, 1))}, api.ErrConflict},
		"two moments":                      {arrivals{from("a", 1, 1), of("a", 2, 1, "t", good(2, 1))}, api.ErrConflict},
		"two values":                       {arrivals{from("a", 1, 1), of("a", 2, 1, "t", good(1, 2))}, api.ErrConflict},
		"two qualities":                    {arrivals{from("a", 1, 1), of("a", 2, 1, "t", api.Sample{At: 1, Value: 1, Quality: api.Uncertain})}, api.ErrConflict},
		"an order before a conflict":       {arrivals{from("a", 1, 1), of("a", 2, 1, "u", good(1, 1)), from("a", 1, 2)}, api.ErrOrder},
		"a conflict after a repetition":    {arrivals{from("a", 1, 1), from("a", 2, 1), of("a", 3, 1, "t", good(1, 2))}, api.ErrConflict},
		"a conflict with others between":   {arrivals{from("a", 1, 1), from("b", 2, 1), from("a", 3, 2), of("a", 4, 1, "t", good(1, 2))}, api.ErrConflict},
		"as much as can be":                {twoLike, api.OK},
		"a conflict in as much as can be":  {conflict, api.ErrConflict},
		"too many":                         {manyArrivals(api.MaxPackets+1, 1), api.ErrLarge},
		"too many wrong ones":              {make(arrivals, api.MaxPackets+1), api.ErrLarge},
		"as many nodes as can be":          {manyArrivals(api.MaxNodes, api.MaxNodes), api.OK},
		"too many nodes":                   {manyArrivals(api.MaxNodes+1, api.MaxNodes+1), api.ErrLarge},
		"an order before too many nodes":   {append(manyArrivals(api.MaxNodes+1, api.MaxNodes+1), from("a", 0, 1)), api.ErrOrder},
		"too many nodes before a conflict": {append(manyArrivals(api.MaxNodes+1, api.MaxNodes+1), of("n000000", 1_000, 1, "u", good(1, 1))), api.ErrLarge},
	} {
		same(t, name, buffer.CheckArrivals(c.l), c.want)
	}
}

func TestP72Merge(t *testing.T) {
	x, y := from("a", 5, 1), from("b", 5, 1)
	other := of("a", 7, 1, "t", good(1, 2))
	full := manyArrivals(api.MaxPackets, 1)
	for name, c := range map[string]struct {
		a, b, want arrivals
		e          api.Errno
	}{
		"nothing":                           {nil, nil, nil, api.OK},
		"one":                               {arrivals{x}, nil, arrivals{x}, api.OK},
		"the other":                         {nil, arrivals{x}, arrivals{x}, api.OK},
		"equal ones":                        {arrivals{x, y}, arrivals{x, y}, arrivals{x, y}, api.OK},
		"by Node":                           {arrivals{y}, arrivals{x}, arrivals{x, y}, api.OK},
		"by Seq":                            {arrivals{from("a", 5, 2)}, arrivals{x}, arrivals{x, from("a", 5, 2)}, api.OK},
		"by At":                             {arrivals{x, from("a", 7, 3)}, arrivals{from("z", 1, 9), from("a", 6, 2)}, arrivals{from("z", 1, 9), x, from("a", 6, 2), from("a", 7, 3)}, api.OK},
		"a packet that arrived twice":       {arrivals{x}, arrivals{from("a", 7, 1)}, arrivals{x, from("a", 7, 1)}, api.OK},
		"a conflict":                        {arrivals{x}, arrivals{other}, nil, api.ErrConflict},
		"a conflict at one place":           {arrivals{x}, arrivals{of("a", 5, 1, "u", good(1, 1))}, nil, api.ErrConflict},
		"no conflict between nodes":         {arrivals{x}, arrivals{of("b", 5, 1, "u", good(9, 9))}, arrivals{x, of("b", 5, 1, "u", good(9, 9))}, api.OK},
		"an error of a":                     {arrivals{{}}, arrivals{x, x}, nil, api.ErrName},
		"an error of b":                     {arrivals{x}, arrivals{x, x}, nil, api.ErrOrder},
		"an error of b before a conflict":   {arrivals{x}, arrivals{other, from("a", 0, 0)}, nil, api.ErrArg},
		"as many as can be":                 {full[:1_000], full[500:], full, api.OK},
		"equal ones do not count":           {full, full, full, api.OK},
		"too many":                          {full, arrivals{from("n000000", api.End-1, 1)}, nil, api.ErrLarge},
		"a conflict before too many":        {full, arrivals{of("n000000", api.End-1, 1, "u", good(1, 1))}, nil, api.ErrConflict},
		"as many nodes as can be":           {manyArrivals(50, 50)[:30], manyArrivals(50, 50)[20:], manyArrivals(50, 50), api.OK},
		"too many nodes":                    {manyArrivals(50, 50), arrivals{x}, nil, api.ErrLarge},
		"a conflict before too many nodes":  {manyArrivals(50, 50), arrivals{x, of("n000000", 7, 1, "u", good(1, 1))}, nil, api.ErrConflict},
		"too many nodes of b before others": {arrivals{x}, manyArrivals(51, 51), nil, api.ErrLarge},
	} {
		merged, e := buffer.Merge(c.a, c.b)
		same(t, name, []any{merged, e}, []any{c.want, c.e})
		if c.e == api.OK {
			merged, e = buffer.Merge(c.b, c.a)
			same(t, name+", the other way", []any{merged, e}, []any{c.want, c.e})
		}
	}
}

func TestP72Duplicates(t *testing.T) {
	for _, c := range []struct {
		name string
		l    arrivals
		want []int
	}{
		{"none", nil, nil},
		{"all different", arrivals{from("a", 1, 1), from("a", 2, 2), from("b", 3, 1), from("b", 4, 2)}, nil},
		{"some", arrivals{from("a", 1, 2), from("b", 1, 2), from("a", 2, 1), from("a", 3, 2), from("a", 4, 2), from("b", 4, 1), from("b", 5, 2)}, []int{3, 4, 6}},
	} {
		got, e := buffer.Duplicates(c.l)
		same(t, c.name, []any{got, e}, []any{c.want, api.OK})
	}
	got, e := buffer.Duplicates(arrivals{from("a", 2, 1), from("a", 1, 1)})
	same(t, "with an error", []any{got, e}, []any{"[]", api.ErrOrder})
}

func TestP72MissingAndComplete(t *testing.T) {
	all := arrivals{from("a", 1, 2), from("b", 2, 1), from("c", 2, 4), from("a", 3, 1), from("d", 3, api.MaxSeq), from("c", 4, 1), from("a", 5, 6), from("b", 6, 2), from("c", 6, 3), from("c", 7, 4), from("c", 7, 8), from("a", 9, 2), from("c", 9, 1)}
	for _, c := range []struct {
		l        arrivals
		node     string
		missing  rows
		complete int
		e        api.Errno
	}{
		{all, "a", rows{row(3, 6)}, 2, api.OK},
		{all, "b", nil, 2, api.OK},
		{all, "c", rows{row(2, 3), row(5, 8)}, 1, api.OK},
		{all, "d", rows{row(1, api.MaxSeq)}, 0, api.OK},
		{all, "e", nil, 0, api.OK},
		{nil, "a", nil, 0, api.OK},
		{arrivals{from("a", 1, 1)}, "a", nil, 1, api.OK},
		{arrivals{from("a", 1, 2)}, "a", rows{row(1, 2)}, 0, api.OK},
		{all, "", nil, 0, api.ErrName},
		{all, "A", nil, 0, api.ErrName},
		{all, strings.Repeat("a", api.MaxName+1), nil, 0, api.ErrName},
		{arrivals{from("a", -1, 1)}, "", nil, 0, api.ErrArg},
	} {
		missing, e := buffer.Missing(c.l, c.node)
		same(t, "missing of "+c.node, []any{missing, e}, []any{c.missing, c.e})
		complete, e := buffer.Complete(c.l, c.node)
		same(t, "complete of "+c.node, []any{complete, e}, []any{c.complete, c.e})
	}
}

func TestP72Delay(t *testing.T) {
	all := arrivals{of("a", 10, 1, "t", good(4, 0)), of("a", 20, 2, "t", good(19, 0)), of("b", 20, 1, "t", good(30, 0)), of("a", 25, 1, "t", good(4, 0)), of("b", 30, 2, "u", good(31, 0)), of("a", 40, 3, "t", good(32, 0)), of("b", 99, 2, "u", good(31, 0))}
	bounds := arrivals{of("a", 0, 1, "t", good(api.End-1, 0)), of("a", api.End-1, 2, "t", good(0, 0))}
	for _, c := range []struct {
		l           arrivals
		node        string
		least, most int
		e           api.Errno
	}{
		{all, "a", 1, 8, api.OK},
		{all, "b", -10, -1, api.OK},
		{all[:1], "a", 6, 6, api.OK},
		{bounds, "a", 1 - api.End, api.End - 1, api.OK},
		{all, "c", 0, 0, api.ErrNone},
		{nil, "a", 0, 0, api.ErrNone},
		{nil, "A", 0, 0, api.ErrName},
		{nil, "", 0, 0, api.ErrName},
		{arrivals{{}, {}}, "", 0, 0, api.ErrName},
		{arrivals{from("a", 1, 0)}, "", 0, 0, api.ErrArg},
	} {
		least, most, e := buffer.Delay(c.l, c.node)
		same(t, "the delay of "+c.node, []any{least, most, e}, []any{c.least, c.most, c.e})
	}
}

// someArrivals returns valid arrivals of the nodes a, b and c, in which some packets arrive several times.
func someArrivals(r *rand.Rand, n int) arrivals {
	var l arrivals
	for range n {
		node, seq := string(rune('a'+r.Intn(3))), 1+r.Intn(8)
		// What a packet holds follows from its node and number.
		what := int(node[0])*31 + seq*7
		x := api.Sample{At: what % 13, Quality: what % 3}
		if x.Quality != api.Bad {
			x.Value = what
		}
		l = append(l, of(node, r.Intn(30), seq, []string{"t", "u"}[what%2], x))
	}
	slices.SortFunc(l, byOrder)
	return slices.Compact(l)
}

// before reports whether a packet arrived before the arrival at an index.
func before(l arrivals, i int) bool {
	return slices.ContainsFunc(l[:i], func(x api.Arrival) bool { return x.Node == l[i].Node && x.Packet.Seq == l[i].Packet.Seq })
}

func TestP72AsTheDocumentSays(t *testing.T) {
	r := rand.New(rand.NewSource(75))
	for range 1000 {
		l := someArrivals(r, r.Intn(30))
		var repeated []int
		numbers, least, most := map[int]bool{}, math.MaxInt, math.MinInt
		for i, x := range l {
			if before(l, i) {
				repeated = append(repeated, i)
				continue
			}
			if x.Node == "b" {
				numbers[x.Packet.Seq] = true
				least, most = min(least, x.At-x.Packet.Sample.At), max(most, x.At-x.Packet.Sample.At)
			}
		}
		greatest, complete := 0, 0
		for n := range numbers {
			greatest = max(greatest, n)
		}
		for numbers[complete+1] {
			complete++
		}
		what := fmt.Sprint(l)
		got, e := buffer.Duplicates(l)
		same(t, "duplicates: "+what, []any{got, e}, []any{repeated, api.OK})
		missing, e := buffer.Missing(l, "b")
		same(t, "missing: "+what, []any{missing, e}, []any{rowsOf(greatest, func(n int) bool { return n > 0 && !numbers[n] }), api.OK})
		number, e := buffer.Complete(l, "b")
		same(t, "complete: "+what, []any{number, e}, []any{complete, api.OK})
		low, high, e := buffer.Delay(l, "b")
		if len(numbers) == 0 {
			same(t, "delay: "+what, []any{low, high, e}, []any{0, 0, api.ErrNone})
			continue
		}
		same(t, "delay: "+what, []any{low, high, e}, []any{least, most, api.OK})
	}
}

// TestP72MergeInAnyOrder: the order in which servers merge makes no difference.
func TestP72MergeInAnyOrder(t *testing.T) {
	r := rand.New(rand.NewSource(76))
	merge := func(a, b arrivals) arrivals {
		l, e := buffer.Merge(a, b)
		same(t, "Merge", e, api.OK)
		return l
	}
	for range 300 {
		a, b, c := someArrivals(r, r.Intn(20)), someArrivals(r, r.Intn(20)), someArrivals(r, r.Intn(20))
		all := slices.Concat(a, b, c)
		slices.SortFunc(all, byOrder)
		all = slices.Compact(all)
		same(t, "from the left", merge(merge(a, b), c), all)
		same(t, "from the right", merge(a, merge(b, c)), all)
		same(t, "the other way", merge(c, merge(b, a)), all)
		same(t, "again", merge(merge(merge(a, b), c), b), all)
	}
}
