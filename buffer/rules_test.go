package buffer_test

import (
	"fmt"
	"math"
	"math/rand"
	"slices"
	"strings"
	"sync"
	"testing"
	"time"

	"plantlog/api"
	"plantlog/buffer"
)

// result is what a call returned: all but the error, and the error.
type result struct {
	name  string
	value []any
	e     api.Errno
}

// arguments are what all functions together take.
type arguments struct {
	capacity, policy int
	l                steps
	a, b             arrivals
	node, tag, text  string
	c                clock
	clocks           clocks
	at               int
}

// valid returns arguments that each call can work with, made anew, with something else behind each list.
func valid() arguments {
	c := append(entries(3, 5, 9, 8), api.Clock{Node: -7})[:2]
	return arguments{
		capacity: 2, policy: api.Thin,
		l:    append(then(puts(4), send(2), ack(9), ack(1), put(5), ack(0)), api.Step{})[:9],
		a:    append(arrivals{from("n", 4, 1), from("m", 5, 1), from("n", 6, 3), from("n", 7, 3)}, api.Arrival{})[:4],
		b:    append(arrivals{from("n", 6, 5)}, api.Arrival{})[:1],
		node: "n", tag: "t", text: "n 10 1 t 5 50 good\n",
		c:      c,
		clocks: append(clocks{{Node: "n", Clock: slices.Clone(c[:3])[:2]}}, api.NodeClock{})[:1],
		at:     6,
	}
}

// everyCall calls each function of the package.
func everyCall(x arguments) []result {
	refused, reasons, e1 := buffer.Refused(x.capacity, x.policy, x.l)
	held, e2 := buffer.Buffered(x.capacity, x.policy, x.l)
	sent, e3 := buffer.Sent(x.capacity, x.policy, x.l)
	dropped, e4 := buffer.Dropped(x.capacity, x.policy, x.l)
	needed, e5 := buffer.Needed(x.l)
	merged, e6 := buffer.Merge(x.a, x.b)
	duplicates, e7 := buffer.Duplicates(x.a)
	missing, e8 := buffer.Missing(x.a, x.node)
	complete, e9 := buffer.Complete(x.a, x.node)
	least, most, e10 := buffer.Delay(x.a, x.node)
	corrected, e11 := buffer.Corrected(x.c, x.at)
	stored, left, e12 := buffer.Stored(x.a, x.clocks, x.tag)
	text, e13 := buffer.Text(x.a)
	read, line, e14 := buffer.Read(x.text)
	return []result{
		{"CheckSteps", nil, buffer.CheckSteps(x.l)},
		{"Refused", []any{refused, reasons}, e1},
		{"Buffered", []any{held}, e2},
		{"Sent", []any{sent}, e3},
		{"Dropped", []any{dropped}, e4},
		{"Needed", []any{needed}, e5},
		{"CheckArrivals", nil, buffer.CheckArrivals(x.a)},
		{"Merge", []any{merged}, e6},
		{"Duplicates", []any{duplicates}, e7},
		{"Missing", []any{missing}, e8},
		{"Complete", []any{complete}, e9},
		{"Delay", []any{least, most}, e10},
		{"CheckClock", nil, buffer.CheckClock(x.c)},
		{"Corrected", []any{corrected}, e11},
		{"Stored", []any{stored, left}, e12},
		{"Text", []any{text}, e13},
		{"Read", []any{read, line}, e14},
	}
}

func expectZero(t *testing.T, x result) {
	t.Helper()
	if x.name == "Read" && x.e == api.ErrSyntax {
		return
	}
	zero := map[string]string{"Refused": "[[] []]", "Needed": "[0]", "Complete": "[0]", "Delay": "[0 0]", "Corrected": "[0]", "Stored": "[[] []]", "Text": "[]", "Read": "[[] 0]", "CheckSteps": "[]", "CheckArrivals": "[]", "CheckClock": "[]"}
	want, ok := zero[x.name]
	if !ok {
		want = "[[]]"
	}
	same(t, fmt.Sprintf("%s with error %d", x.name, x.e), x.value, want)
}

func TestOrdinaryCallsWork(t *testing.T) {
	want := map[string]string{
		"Refused": "[[5 8] [8 7]]", "Dropped": "[[{From:2 To:4}]]", "Needed": "[4]", "Duplicates": "[[3]]", "Missing": "[[{From:2 To:3}]]",
		"Complete": "[1]", "Delay": "[3 3]", "Corrected": "[6]", "Stored": "[[{At:1 Value:1 Quality:0} {At:3 Value:1 Quality:0} {At:5 Value:3 Quality:0}] []]",
	}
	for _, x := range everyCall(valid()) {
		same(t, x.name, x.e, api.OK)
		if s, ok := want[x.name]; ok {
			same(t, x.name, x.value, s)
		}
		if s := fmt.Sprint(x.value); s == "[[]]" {
			t.Errorf("%s: %s", x.name, s)
		}
	}
}

func someInt(r *rand.Rand) int {
	list := []int{math.MinInt, math.MinInt + 1, -api.End, -api.MaxValue - 1, -api.MaxValue, -1, 0, 1, 2, 3, 4, 5, 6, 9, api.MaxCapacity, api.MaxPackets, api.MaxSeq, api.MaxSeq + 1, api.MaxSkew, api.MaxSkew + 5, api.MaxSkew + 6, api.End - 1, api.End, math.MaxInt - 1, math.MaxInt}
	return list[r.Intn(len(list))]
}

// spoiled returns valid arguments in which some numbers are any.
func spoiled(r *rand.Rand) arguments {
	x := valid()
	y := api.Sample{At: someInt(r), Value: someInt(r), Quality: r.Intn(3)}
	switch r.Intn(9) {
	case 0:
		x.capacity, x.policy = someInt(r), someInt(r)
	case 1:
		x.l[r.Intn(9)] = api.Step{Kind: someInt(r), Count: someInt(r), Seq: someInt(r)}
	case 2:
		x.l[r.Intn(9)] = []api.Step{send(someInt(r)), ack(someInt(r)), {Kind: api.BufferPut, Tag: "t", Sample: y}}[r.Intn(3)]
	case 3:
		i := r.Intn(4)
		x.a[i] = of("n", someInt(r), someInt(r), "t", y)
	case 4:
		x.b[0] = of("n", someInt(r), someInt(r), "t", y)
		x.node = []string{"m", "x", "X", ""}[r.Intn(4)]
	case 5:
		x.c[r.Intn(2)] = api.Clock{Node: someInt(r), Server: someInt(r)}
		x.at = someInt(r)
	case 6:
		x.clocks[0].Clock[r.Intn(2)] = api.Clock{Node: someInt(r), Server: someInt(r)}
		x.tag = []string{"t", "u", "T", ""}[r.Intn(4)]
	case 7:
		x.text = fmt.Sprintf("n %d %d t %d %d good\n", someInt(r), someInt(r), someInt(r), someInt(r))
	case 8:
		x.at = someInt(r)
	}
	return x
}

// TestZ1Z3Z6AllInts: with whatever arguments, each call returns, and with an error all else is zero.
func TestZ1Z3Z6AllInts(t *testing.T) {
	r := rand.New(rand.NewSource(82))
	fails, works := map[string]int{}, map[string]int{}
	for range 9000 {
		for _, x := range everyCall(spoiled(r)) {
			if x.e != api.OK {
				fails[x.name]++
				expectZero(t, x)
				continue
			}
			works[x.name]++
		}
	}
	for _, x := range everyCall(valid()) {
		if fails[x.name] < 100 || works[x.name] < 100 {
			t.Errorf("%s: %d calls fail, %d work", x.name, fails[x.name], works[x.name])
		}
	}
}

func TestZ1ManyElements(t *testing.T) {
	const most = 200_000
	x := valid()
	x.l, x.a, x.b, x.c, x.text = make(steps, most), make(arrivals, most), make(arrivals, most), make(clock, most), strings.Repeat("\n", most)
	for _, y := range everyCall(x) {
		want := api.ErrLarge
		if y.name == "Read" {
			want = api.ErrSyntax
		}
		same(t, y.name, y.e, want)
		expectZero(t, y)
	}
	y := valid()
	y.node, y.tag = strings.Repeat("n", most), strings.Repeat("t", most)
	for _, z := range everyCall(y) {
		if strings.Contains(" Missing Complete Delay Stored ", " "+z.name+" ") {
			same(t, z.name+" with a long name", z.e, api.ErrName)
		}
	}
	_, _, e := buffer.Stored(nil, make(clocks, most), "t")
	same(t, "Stored with many clocks", e, api.ErrLarge)
}

// TestZ1TheGreatest: as many steps, packets, arrivals and clocks as there can be.
func TestZ1TheGreatest(t *testing.T) {
	start := time.Now()
	l := puts(api.MaxCapacity)
	for len(l) < api.MaxPackets {
		l = append(l, send(api.MaxPackets), reset)
	}
	sent, e := buffer.Sent(api.MaxCapacity, api.Thin, l)
	same(t, "Sent", []any{len(sent), e}, []any{api.MaxCapacity * 500, api.OK})
	for _, policy := range policies {
		held, e := buffer.Buffered(api.MaxCapacity, policy, puts(api.MaxPackets))
		same(t, "Buffered", []any{len(held) > api.MaxCapacity/2, e}, []any{true, api.OK})
	}
	same(t, "Needed", fmt.Sprint(buffer.Needed(l)), fmt.Sprint(api.MaxCapacity, api.OK))
	a := manyArrivals(api.MaxPackets, api.MaxNodes)
	for i := range a {
		a[i].Packet.Sample.At = i * 100_000_000
	}
	c := make(clocks, api.MaxNodes)
	for i := range c {
		c[i] = api.NodeClock{Node: fmt.Sprintf("n%06d", i), Clock: make(clock, api.MaxPackets)}
		for j := range c[i].Clock {
			c[i].Clock[j] = api.Clock{Node: j * 100_000_000, Server: j*100_000_000 + j%2*api.MaxSkew}
		}
	}
	stored, left, e := buffer.Stored(a, c, "t")
	same(t, "Stored", []any{len(stored), len(left), e}, []any{api.MaxPackets, 0, api.OK})
	if time.Since(start) > 10*time.Second {
		t.Errorf("after %v", time.Since(start))
	}
}

// memory is all that arguments refer to, with what is behind their lists.
func (x arguments) memory() string {
	return fmt.Sprintf("%+v %+v %+v %+v %+v %+v", x.l[:10], x.a[:5], x.b[:2], x.c[:3], x.clocks[:2], x.clocks[0].Clock[:3])
}

func TestZ2ArgumentsAreNotModified(t *testing.T) {
	x := valid()
	everyCall(x)
	same(t, "the arguments", x.memory(), valid().memory())
}

func TestZ2ResultsAreNewMemory(t *testing.T) {
	x := valid()
	before := fmt.Sprint(everyCall(valid()))
	alone, _ := buffer.Merge(x.a, nil)
	stored, _, _ := buffer.Stored(x.a, nil, "t")
	for _, y := range append(everyCall(x), result{value: []any{alone, stored}}) {
		for _, list := range y.value {
			switch list := list.(type) {
			case []int:
				spoil(list, -7)
			case errnos:
				spoil(list, -7)
			case packets:
				spoil(list, api.Packet{Seq: -7})
			case rows:
				spoil(list, row(-7, -7))
			case arrivals:
				spoil(list, api.Arrival{At: -7})
			case samples:
				spoil(list, good(-7, -7))
			}
		}
	}
	same(t, "the arguments", x.memory(), valid().memory())
	same(t, "after the results were changed", fmt.Sprint(everyCall(x)), before)
}

// spoil overwrites a list, and what memory it has after its end.
func spoil[T any](list []T, x T) {
	list = list[:cap(list)]
	for i := range list {
		list[i] = x
	}
}

// TestZ2MemoryAfterTheLength: what lies behind lists makes no difference.
func TestZ2MemoryAfterTheLength(t *testing.T) {
	x := valid()
	want := fmt.Sprint(everyCall(x))
	x.l, x.a, x.b, x.c, x.clocks = slices.Clip(x.l), slices.Clip(x.a), slices.Clip(x.b), slices.Clip(x.c), slices.Clip(x.clocks)
	x.clocks[0].Clock = slices.Clip(x.clocks[0].Clock)
	same(t, "with nothing behind", fmt.Sprint(everyCall(x)), want)
}

func TestZ5EmptyAndNil(t *testing.T) {
	none, empty := valid(), valid()
	none.l, none.a, none.b, none.c, none.clocks, none.text = nil, nil, nil, nil, nil, ""
	empty.l, empty.a, empty.b, empty.c, empty.clocks, empty.text = steps{}, arrivals{}, arrivals{}, clock{}, clocks{}, ""
	same(t, "empty lists", everyCall(empty), everyCall(none))
	for _, x := range everyCall(none) {
		want := api.OK
		if x.name == "Delay" {
			want = api.ErrNone
		}
		same(t, x.name, x.e, want)
	}
	none, empty = valid(), valid()
	none.clocks[0].Clock, empty.clocks[0].Clock = nil, clock{}
	same(t, "empty clocks", everyCall(empty), everyCall(none))
}

func TestZ1Z7ManyAtOnce(t *testing.T) {
	x := valid()
	want := fmt.Sprint(everyCall(x))
	var all sync.WaitGroup
	got := make([]string, 8)
	for i := range got {
		all.Go(func() {
			for range 50 {
				got[i] = fmt.Sprint(everyCall(x))
			}
		})
	}
	all.Wait()
	for _, s := range got {
		same(t, "at once", s, want)
	}
}
