package buffer

import (
	"slices"

	"plantlog/api"
)

// node is a buffer at work.
type node struct {
	capacity int
	drops    func(place int) bool // of the packets, if there is one too many: which ones are dropped
	held     []api.Packet         // in the order of their numbers
	last     int                  // the number of the last packet that was put
	sent     int                  // all packets up to this number were sent since the last reset
	ever     map[int]bool         // the numbers of the packets that were sent at any time
	acked    int                  // the greatest number that was acknowledged

	onSend, onDrop func(x api.Packet)
}

func newNode(capacity, policy int) *node {
	ignore := func(api.Packet) {}
	return &node{capacity: capacity, drops: dropping(capacity, policy), ever: map[int]bool{}, onSend: ignore, onDrop: ignore}
}

// dropping returns which packets a policy drops, by their places; the new packet has the one after the others.
func dropping(capacity, policy int) func(place int) bool {
	switch policy {
	case api.DropOldest:
		return func(place int) bool { return place == 0 }
	case api.DropNewest:
		return func(place int) bool { return place == capacity }
	}
	return func(place int) bool { return place%2 == 1 && place < capacity }
}

// applyAll applies steps, also if some of them are refused.
func (n *node) applyAll(l []api.Step) {
	for _, x := range l {
		n.apply(x)
	}
}

// apply applies a step; the error says why it is refused.
func (n *node) apply(x api.Step) api.Errno {
	switch x.Kind {
	case api.BufferPut:
		n.put(x.Tag, x.Sample)
	case api.BufferSend:
		n.send(x.Count)
	case api.BufferAck:
		return n.ack(x.Seq)
	case api.BufferReset:
		n.sent = 0
	}
	return api.OK
}

func (n *node) put(tag string, x api.Sample) {
	n.last++
	n.held = append(n.held, api.Packet{Seq: n.last, Tag: tag, Sample: x})
	if len(n.held) > n.capacity {
		n.makeRoom()
	}
}

func (n *node) makeRoom() {
	kept := n.held[:0]
	for place, x := range n.held {
		if n.drops(place) {
			n.onDrop(x)
			continue
		}
		kept = append(kept, x)
	}
	n.held = kept
}

func (n *node) send(count int) {
	from := n.after(n.sent)
	for _, x := range n.held[from:min(from+count, len(n.held))] {
		n.onSend(x)
		n.ever[x.Seq] = true
		n.sent = x.Seq
	}
}

func (n *node) ack(seq int) api.Errno {
	switch {
	case seq != 0 && !n.ever[seq]:
		return api.ErrNone
	case seq < n.acked:
		return api.ErrOrder
	}
	n.acked = seq
	n.held = n.held[n.after(seq):]
	return api.OK
}

// after returns the place of the first packet with a number greater than seq.
func (n *node) after(seq int) int {
	place, _ := slices.BinarySearchFunc(n.held, seq+1, func(x api.Packet, seq int) int { return x.Seq - seq })
	return place
}
