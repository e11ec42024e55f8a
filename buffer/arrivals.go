package buffer

import (
	"cmp"
	"slices"
	"strings"

	"plantlog/api"
	"plantlog/basic"
)

// CheckArrivals says what is wrong with arrivals.
func CheckArrivals(l []api.Arrival) api.Errno {
	if len(l) > api.MaxPackets {
		return api.ErrLarge
	}
	for i, x := range l {
		if e := checkArrival(x); e != api.OK {
			return e
		}
		if i > 0 && inOrder(l[i-1], x) >= 0 {
			return api.ErrOrder
		}
	}
	switch {
	case tooManyNodes(l):
		return api.ErrLarge
	case inConflict(l):
		return api.ErrConflict
	}
	return api.OK
}

func checkArrival(x api.Arrival) api.Errno {
	switch {
	case !basic.Key(x.Node):
		return api.ErrName
	case !basic.Moment(x.At) || !basic.Within(x.Packet.Seq, 1, api.MaxSeq):
		return api.ErrArg
	}
	return checkContent(x.Packet.Tag, x.Packet.Sample)
}

// inOrder compares two arrivals by the order in which they are listed.
func inOrder(x, y api.Arrival) int {
	return cmp.Or(cmp.Compare(x.At, y.At), strings.Compare(x.Node, y.Node), cmp.Compare(x.Packet.Seq, y.Packet.Seq))
}

func tooManyNodes(l []api.Arrival) bool {
	nodes := map[string]bool{}
	for _, x := range l {
		nodes[x.Node] = true
	}
	return len(nodes) > api.MaxNodes
}

// origin is what tells a packet from all others.
type origin struct {
	node string
	seq  int
}

func originOf(x api.Arrival) origin { return origin{x.Node, x.Packet.Seq} }

// inConflict reports whether two packets of one node have the same number.
func inConflict(l []api.Arrival) bool {
	places := make(map[origin]int, len(l)) // where packets are for the first time
	for i, x := range l {
		first, known := places[originOf(x)]
		if !known {
			places[originOf(x)] = i
		} else if l[first].Packet != x.Packet {
			return true
		}
	}
	return false
}

// Merge returns the arrivals of both lists.
func Merge(a, b []api.Arrival) ([]api.Arrival, api.Errno) {
	if e := CheckArrivals(a); e != api.OK {
		return nil, e
	}
	if e := CheckArrivals(b); e != api.OK {
		return nil, e
	}
	if inConflict(slices.Concat(a, b)) {
		return nil, api.ErrConflict
	}
	var merged []api.Arrival
	add := func(x api.Arrival) { merged = append(merged, x) }
	// Without a conflict, arrivals with the same place in the order are equal.
	basic.Align(a, b, inOrder, add, func(x, _ api.Arrival) { add(x) })
	if len(merged) > api.MaxPackets || tooManyNodes(merged) {
		return nil, api.ErrLarge
	}
	return merged, api.OK
}

// newcomers returns a function that reports whether a packet arrives for the first time; it takes the arrivals of a list in order.
func newcomers() func(x api.Arrival) bool {
	known := map[origin]bool{}
	return func(x api.Arrival) bool {
		o := originOf(x)
		first := !known[o]
		known[o] = true
		return first
	}
}

// Duplicates returns the arrivals before which there is the same packet.
func Duplicates(l []api.Arrival) ([]int, api.Errno) {
	if e := CheckArrivals(l); e != api.OK {
		return nil, e
	}
	var repeated []int
	first := newcomers()
	for i, x := range l {
		if !first(x) {
			repeated = append(repeated, i)
		}
	}
	return repeated, api.OK
}

// checkOf says what is wrong with arrivals, then with the name of a node.
func checkOf(l []api.Arrival, node string) api.Errno {
	e := CheckArrivals(l)
	if e == api.OK && !basic.Key(node) {
		return api.ErrName
	}
	return e
}

// firstOf returns the first arrivals of the packets of a node.
func firstOf(l []api.Arrival, node string) []api.Arrival {
	var arrivals []api.Arrival
	first := newcomers()
	for _, x := range l {
		if x.Node == node && first(x) {
			arrivals = append(arrivals, x)
		}
	}
	return arrivals
}

// arrived returns the numbers of the packets of a node that arrived, rising.
func arrived(l []api.Arrival, node string) []int {
	var numbers []int
	for _, x := range firstOf(l, node) {
		numbers = append(numbers, x.Packet.Seq)
	}
	slices.Sort(numbers)
	return numbers
}

// Missing returns the numbers of a node that did not arrive.
func Missing(l []api.Arrival, node string) ([]api.Row, api.Errno) {
	if e := checkOf(l, node); e != api.OK {
		return nil, e
	}
	var missing []api.Row
	next := 1
	for _, n := range arrived(l, node) {
		if n > next {
			missing = append(missing, api.Row{From: next, To: n})
		}
		next = n + 1
	}
	return missing, api.OK
}

// Complete returns the number up to which all have arrived.
func Complete(l []api.Arrival, node string) (int, api.Errno) {
	if e := checkOf(l, node); e != api.OK {
		return 0, e
	}
	complete := 0
	for _, n := range arrived(l, node) {
		if n > complete+1 {
			break
		}
		complete = n
	}
	return complete, api.OK
}

// Delay returns how long samples of a node were on their way.
func Delay(l []api.Arrival, node string) (int, int, api.Errno) {
	if e := checkOf(l, node); e != api.OK {
		return 0, 0, e
	}
	var delays []int
	for _, x := range firstOf(l, node) {
		delays = append(delays, x.At-x.Packet.Sample.At)
	}
	if len(delays) == 0 {
		return 0, 0, api.ErrNone
	}
	return slices.Min(delays), slices.Max(delays), api.OK
}
