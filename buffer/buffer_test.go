package buffer_test

import (
	"fmt"
	"math"
	"math/rand"
	"slices"
	"strings"
	"testing"

	"plantlog/api"
	"plantlog/buffer"
)

// same compares as printed, so that an empty and a nil list are the same.
func same(t *testing.T, what string, got, want any) {
	t.Helper()
	if g, w := fmt.Sprintf("%+v", got), fmt.Sprintf("%+v", want); g != w {
		t.Errorf("%s: got %.400s, want %.400s", what, g, w)
	}
}

type (
	samples  = []api.Sample
	steps    = []api.Step
	packets  = []api.Packet
	arrivals = []api.Arrival
	rows     = []api.Row
	errnos   = []api.Errno
	clock    = []api.Clock
	clocks   = []api.NodeClock
)

func good(at, value int) api.Sample { return api.Sample{At: at, Value: value, Quality: api.Good} }

// put returns a step whose packet tells from which one it is.
func put(n int) api.Step {
	return api.Step{Kind: api.BufferPut, Tag: fmt.Sprintf("t%d", n), Sample: good(n, n)}
}

func send(count int) api.Step { return api.Step{Kind: api.BufferSend, Count: count} }

func ack(seq int) api.Step { return api.Step{Kind: api.BufferAck, Seq: seq} }

var reset = api.Step{Kind: api.BufferReset}

func row(from, to int) api.Row { return api.Row{From: from, To: to} }

// puts returns n steps that put the packets from 1 to n.
func puts(n int) steps {
	var l steps
	for i := range n {
		l = append(l, put(i+1))
	}
	return l
}

// then returns steps followed by others.
func then(l steps, more ...api.Step) steps { return slices.Concat(l, more) }

// seqs returns the numbers of packets, if they have what put put into them.
func seqs(l packets) []int {
	var numbers []int
	for _, x := range l {
		if y := put(x.Seq); x.Tag != y.Tag || x.Sample != y.Sample {
			return []int{-1}
		}
		numbers = append(numbers, x.Seq)
	}
	return numbers
}

var policies = []int{api.DropOldest, api.DropNewest, api.Thin}

func TestP71CheckSteps(t *testing.T) {
	step := func(change func(x *api.Step), x api.Step) api.Step {
		change(&x)
		return x
	}
	tagged := func(x *api.Step) { x.Tag = "t" }
	sampled := func(x *api.Step) { x.Sample.Quality = api.Uncertain }
	numbered := func(x *api.Step) { x.Seq = 1 }
	counted := func(x *api.Step) { x.Count = 1 }
	sample := func(y api.Sample) api.Step { return api.Step{Kind: api.BufferPut, Tag: "t", Sample: y} }
	for name, c := range map[string]struct {
		x    api.Step
		want api.Errno
	}{
		"a put":                          {put(1), api.OK},
		"a put of a Bad sample":          {sample(api.Sample{At: api.End - 1, Quality: api.Bad}), api.OK},
		"a put of the greatest value":    {sample(good(0, api.MaxValue)), api.OK},
		"a put of a long tag":            {step(func(x *api.Step) { x.Tag = strings.Repeat("a", api.MaxName) }, put(1)), api.OK},
		"a send of 1":                    {send(1), api.OK},
		"a send of the most":             {send(api.MaxPackets), api.OK},
		"an ack of 0":                    {ack(0), api.OK},
		"an ack of the greatest number":  {ack(api.MaxSeq), api.OK},
		"a reset":                        {reset, api.OK},
		"kind 0":                         {api.Step{}, api.ErrKind},
		"kind 5":                         {api.Step{Kind: 5}, api.ErrKind},
		"kind -1":                        {api.Step{Kind: -1, Count: -1}, api.ErrKind},
		"the greatest kind":              {api.Step{Kind: math.MaxInt, Tag: "T"}, api.ErrKind},
		"a put without a tag":            {step(func(x *api.Step) { x.Tag = "" }, put(1)), api.ErrName},
		"a put of a tag too long":        {step(func(x *api.Step) { x.Tag = strings.Repeat("a", api.MaxName+1) }, put(1)), api.ErrName},
		"a tag before a sample":          {step(func(x *api.Step) { x.Tag, x.Sample.At = "T", -1 }, put(1)), api.ErrName},
		"a put of no moment":             {sample(good(api.End, 1)), api.ErrArg},
		"a put of no quality":            {sample(api.Sample{Quality: 3}), api.ErrKind},
		"a put of a value too great":     {sample(good(0, api.MaxValue+1)), api.ErrArg},
		"a put of a Bad value":           {sample(api.Sample{Value: 1, Quality: api.Bad}), api.ErrForm},
		"a put with a count":             {step(counted, put(1)), api.ErrForm},
		"a put with a number":            {step(numbered, put(1)), api.ErrForm},
		"a sample before a count":        {step(counted, sample(good(-1, 0))), api.ErrArg},
		"a send of 0":                    {send(0), api.ErrArg},
		"a send of -1":                   {send(-1), api.ErrArg},
		"a send of too many":             {send(api.MaxPackets + 1), api.ErrArg},
		"a send of the greatest int":     {send(math.MaxInt), api.ErrArg},
		"a send with a number":           {step(numbered, send(1)), api.ErrForm},
		"a send with a tag":              {step(tagged, send(1)), api.ErrForm},
		"a send with a sample":           {step(sampled, send(1)), api.ErrForm},
		"a count before a tag":           {step(tagged, send(0)), api.ErrArg},
		"an ack of -1":                   {ack(-1), api.ErrArg},
		"an ack of a number too great":   {ack(api.MaxSeq + 1), api.ErrArg},
		"an ack of the least int":        {ack(math.MinInt), api.ErrArg},
		"an ack with a count":            {step(counted, ack(1)), api.ErrForm},
		"an ack with a tag":              {step(tagged, ack(1)), api.ErrForm},
		"an ack with a sample":           {step(sampled, ack(1)), api.ErrForm},
		"a number before a count":        {step(counted, ack(-1)), api.ErrArg},
		"a reset with a number":          {step(numbered, reset), api.ErrForm},
		"a reset with a count":           {step(counted, reset), api.ErrForm},
		"a reset with a negative number": {step(func(x *api.Step) { x.Seq = -1 }, reset), api.ErrForm},
		"a reset with a tag":             {step(tagged, reset), api.ErrForm},
		"a reset with a sample":          {step(sampled, reset), api.ErrForm},
	} {
		same(t, name, buffer.CheckSteps(steps{c.x}), c.want)
		same(t, name+", as the second one", buffer.CheckSteps(steps{reset, c.x, {}}[:2]), c.want)
		if c.want != api.OK {
			same(t, name+", before another error", buffer.CheckSteps(steps{c.x, {Kind: -1}, send(-1)}), c.want)
		}
	}
	same(t, "no steps", buffer.CheckSteps(nil), api.OK)
	same(t, "as many as can be", buffer.CheckSteps(puts(api.MaxPackets)), api.OK)
	same(t, "too many", buffer.CheckSteps(puts(api.MaxPackets+1)), api.ErrLarge)
	same(t, "too many wrong ones", buffer.CheckSteps(make(steps, api.MaxPackets+1)), api.ErrLarge)
}

func TestP71ErrorsInOrder(t *testing.T) {
	wrong := steps{{}}
	for name, c := range map[string]struct {
		capacity, policy int
		l                steps
		want             api.Errno
	}{
		"capacity 1":                  {1, api.Thin, puts(1), api.ErrArg},
		"capacity 0, no policy":       {0, 0, wrong, api.ErrArg},
		"capacity -1":                 {-1, api.DropOldest, nil, api.ErrArg},
		"the least capacity":          {math.MinInt, api.DropOldest, nil, api.ErrArg},
		"a capacity too great":        {api.MaxCapacity + 1, 9, wrong, api.ErrArg},
		"the greatest capacity":       {math.MaxInt, api.DropOldest, nil, api.ErrArg},
		"policy 0":                    {2, 0, wrong, api.ErrKind},
		"policy 4":                    {2, 4, puts(1), api.ErrKind},
		"policy -1":                   {api.MaxCapacity, -1, nil, api.ErrKind},
		"a step of no kind":           {2, api.DropOldest, wrong, api.ErrKind},
		"a step that does not exist":  {2, api.DropNewest, steps{put(1), send(0)}, api.ErrArg},
		"too many steps":              {2, api.Thin, puts(api.MaxPackets + 1), api.ErrLarge},
		"the least":                   {2, api.DropOldest, nil, api.OK},
		"the greatest":                {api.MaxCapacity, api.Thin, puts(5), api.OK},
		"a step that is only refused": {2, api.Thin, steps{ack(5)}, api.OK},
	} {
		refused, reasons, e := buffer.Refused(c.capacity, c.policy, c.l)
		same(t, "Refused, "+name, e, c.want)
		held, e := buffer.Buffered(c.capacity, c.policy, c.l)
		same(t, "Buffered, "+name, e, c.want)
		sent, e := buffer.Sent(c.capacity, c.policy, c.l)
		same(t, "Sent, "+name, e, c.want)
		dropped, e := buffer.Dropped(c.capacity, c.policy, c.l)
		same(t, "Dropped, "+name, e, c.want)
		if c.want != api.OK {
			same(t, name, []any{refused, reasons, held, sent, dropped}, "[[] [] [] [] []]")
		}
	}
}

func TestP71Policies(t *testing.T) {
	for _, c := range []struct {
		name             string
		capacity, policy int
		l                steps
		held             string
		dropped          rows
	}{
		{"the example", 4, api.Thin, puts(5), "[1 3 5]", rows{row(2, 3), row(4, 5)}},
		{"no steps", 4, api.Thin, nil, "[]", nil},
		{"as many as the capacity", 4, api.DropOldest, puts(4), "[1 2 3 4]", nil},
		{"the oldest one", 4, api.DropOldest, puts(5), "[2 3 4 5]", rows{row(1, 2)}},
		{"the oldest ones", 2, api.DropOldest, puts(7), "[6 7]", rows{row(1, 6)}},
		{"the newest one", 4, api.DropNewest, puts(5), "[1 2 3 4]", rows{row(5, 6)}},
		{"the newest ones", 2, api.DropNewest, puts(7), "[1 2]", rows{row(3, 8)}},
		{"every second one of 2", 2, api.Thin, puts(3), "[1 3]", rows{row(2, 3)}},
		{"every second one of 2, again", 2, api.Thin, puts(4), "[1 4]", rows{row(2, 4)}},
		{"every second one of 3", 3, api.Thin, puts(4), "[1 3 4]", rows{row(2, 3)}},
		{"every second one of 3, again", 3, api.Thin, puts(5), "[1 4 5]", rows{row(2, 4)}},
		{"every second one of 5", 5, api.Thin, puts(6), "[1 3 5 6]", rows{row(2, 3), row(4, 5)}},
		{"every second one of 4, again", 4, api.Thin, puts(7), "[1 5 7]", rows{row(2, 5), row(6, 7)}},
		{"the oldest one, though it was sent", 2, api.DropOldest, steps{put(1), put(2), send(1), put(3)}, "[2 3]", rows{row(1, 2)}},
		{"the newest one, as what was sent stays", 2, api.DropNewest, steps{put(1), put(2), send(2), put(3)}, "[1 2]", rows{row(3, 4)}},
		{"those that were sent, too", 4, api.Thin, then(puts(4), send(4), put(5)), "[1 3 5]", rows{row(2, 3), row(4, 5)}},
		{"none, as there is room again", 2, api.DropOldest, steps{put(1), put(2), send(2), ack(1), put(3)}, "[2 3]", nil},
		{"the number after that of a dropped one", 2, api.DropNewest, steps{put(1), put(2), put(3), send(2), ack(1), put(4)}, "[2 4]", rows{row(3, 4)}},
		{"rows on both sides of what was acknowledged", 2, api.DropOldest, steps{put(1), put(2), put(3), send(1), ack(2), put(4), put(5)}, "[4 5]", rows{row(1, 2), row(3, 4)}},
	} {
		held, e := buffer.Buffered(c.capacity, c.policy, c.l)
		same(t, "buffered: "+c.name, []any{seqs(held), e}, []any{c.held, api.OK})
		dropped, e := buffer.Dropped(c.capacity, c.policy, c.l)
		same(t, "dropped: "+c.name, []any{dropped, e}, []any{c.dropped, api.OK})
	}
}

func TestP71Sent(t *testing.T) {
	for _, c := range []struct {
		name             string
		capacity, policy int
		l                steps
		want             string
	}{
		{"nothing", 4, api.Thin, puts(2), "[]"},
		{"nothing of nothing", 4, api.Thin, steps{send(5)}, "[]"},
		{"some", 4, api.Thin, then(puts(3), send(2)), "[1 2]"},
		{"the others", 4, api.Thin, then(puts(3), send(2), send(2)), "[1 2 3]"},
		{"fewer than Count", 4, api.Thin, then(puts(3), send(api.MaxPackets)), "[1 2 3]"},
		{"not again", 4, api.Thin, then(puts(2), send(2), send(2)), "[1 2]"},
		{"the ones that came later", 4, api.Thin, then(puts(2), send(2), put(3), send(9)), "[1 2 3]"},
		{"again after a reset", 4, api.Thin, then(puts(3), send(2), reset, send(2)), "[1 2 1 2]"},
		{"only once after two resets", 4, api.Thin, then(puts(2), send(2), reset, reset, send(1), send(5)), "[1 2 1 2]"},
		{"not what was acknowledged", 4, api.Thin, then(puts(3), send(2), ack(1), reset, send(9)), "[1 2 2 3]"},
		{"not what was dropped before", 2, api.DropOldest, then(puts(3), send(9)), "[2 3]"},
		{"not what is dropped, again", 2, api.DropOldest, then(puts(2), send(2), put(3), reset, send(9)), "[1 2 2 3]"},
		{"those after what was dropped", 4, api.Thin, then(puts(4), send(3), put(5), send(9)), "[1 2 3 5]"},
		{"all that are left, after a reset", 4, api.Thin, then(puts(4), send(3), put(5), reset, send(9)), "[1 2 3 1 3 5]"},
		{"what was acknowledged in one and not sent since", 4, api.Thin, then(puts(3), send(3), reset, ack(2), send(1)), "[1 2 3 3]"},
		{"with an ack that is refused", 4, api.Thin, then(puts(3), send(1), ack(2), send(9)), "[1 2 3]"},
	} {
		sent, e := buffer.Sent(c.capacity, c.policy, c.l)
		same(t, c.name, []any{seqs(sent), e}, []any{c.want, api.OK})
	}
}

func TestP71Refused(t *testing.T) {
	for _, c := range []struct {
		name             string
		capacity, policy int
		l                steps
		refused          []int
		reasons          errnos
		held             string
	}{
		{"none", 4, api.Thin, then(puts(3), send(3), ack(2)), nil, nil, "[3]"},
		{"all at once", 4, api.Thin, then(puts(3), send(3), ack(3)), nil, nil, "[]"},
		{"0 at first", 4, api.Thin, steps{ack(0), put(1), ack(0)}, nil, nil, "[1]"},
		{"no such packet", 4, api.Thin, then(puts(2), send(2), ack(3)), []int{3}, errnos{api.ErrNone}, "[1 2]"},
		{"not sent", 4, api.Thin, then(puts(3), send(2), ack(3)), []int{4}, errnos{api.ErrNone}, "[1 2 3]"},
		{"the greatest number", 4, api.Thin, then(puts(3), send(2), ack(api.MaxSeq)), []int{4}, errnos{api.ErrNone}, "[1 2 3]"},
		{"less than before", 4, api.Thin, then(puts(3), send(3), ack(2), ack(1)), []int{5}, errnos{api.ErrOrder}, "[3]"},
		{"0 after another one", 4, api.Thin, then(puts(3), send(3), ack(2), ack(0)), []int{5}, errnos{api.ErrOrder}, "[3]"},
		{"the same again", 4, api.Thin, then(puts(3), send(3), ack(2), ack(2), ack(3)), nil, nil, "[]"},
		{"what was sent before a reset", 4, api.Thin, then(puts(3), send(2), reset, ack(2)), nil, nil, "[3]"},
		{"what was sent, and dropped then", 2, api.DropOldest, then(puts(2), send(1), put(3), ack(1)), nil, nil, "[2 3]"},
		{"what was dropped, and not sent before", 2, api.DropOldest, then(puts(3), send(1), ack(1)), []int{4}, errnos{api.ErrNone}, "[2 3]"},
		{"what was dropped when it came", 2, api.DropNewest, then(puts(3), send(2), ack(3), ack(2)), []int{4}, errnos{api.ErrNone}, "[]"},
		{"what is no more, and is less than before", 2, api.DropOldest, then(puts(3), send(2), ack(2), ack(1)), []int{5}, errnos{api.ErrNone}, "[3]"},
		{"a refused one does not count as one before", 4, api.Thin, then(puts(3), send(2), ack(3), ack(1), send(1), ack(2)), []int{4}, errnos{api.ErrNone}, "[3]"},
		{"nor does one that was refused by order", 4, api.Thin, then(puts(4), send(4), ack(3), ack(1), ack(2), ack(3), ack(4)), []int{6, 7}, errnos{api.ErrOrder, api.ErrOrder}, "[]"},
		{"more than what is left, as there are gaps", 4, api.Thin, then(puts(4), send(4), put(5), ack(4)), nil, nil, "[5]"},
	} {
		refused, reasons, e := buffer.Refused(c.capacity, c.policy, c.l)
		same(t, c.name, []any{refused, reasons, e}, []any{c.refused, c.reasons, api.OK})
		held, e := buffer.Buffered(c.capacity, c.policy, c.l)
		same(t, "buffered: "+c.name, []any{seqs(held), e}, []any{c.held, api.OK})
	}
}

func TestP71Needed(t *testing.T) {
	for _, c := range []struct {
		name string
		l    steps
		want int
		e    api.Errno
	}{
		{"nothing", nil, 2, api.OK},
		{"one", puts(1), 2, api.OK},
		{"two", puts(2), 2, api.OK},
		{"three", puts(3), 3, api.OK},
		{"three, one after the other", steps{put(1), send(1), ack(1), put(2), put(3), send(1), ack(2)}, 2, api.OK},
		{"what is sent takes room", steps{put(1), put(2), send(2), put(3)}, 3, api.OK},
		{"the most in between", then(puts(5), send(5), ack(5), put(6)), 5, api.OK},
		{"a refused ack makes no room", steps{put(1), put(2), ack(2), put(3)}, 3, api.OK},
		{"an ack of less makes no room", then(puts(3), send(3), ack(2), ack(1), put(4), put(5), put(6)), 4, api.OK},
		{"the greatest capacity", puts(api.MaxCapacity), api.MaxCapacity, api.OK},
		{"more than that", puts(api.MaxCapacity + 1), 0, api.ErrFull},
		{"more than that in between", then(puts(api.MaxCapacity+1), send(api.MaxPackets), ack(api.MaxCapacity)), 0, api.ErrFull},
		{"a wrong step before", then(puts(api.MaxCapacity+1), send(0)), 0, api.ErrArg},
		{"too many steps before", puts(api.MaxPackets + 1), 0, api.ErrLarge},
	} {
		needed, e := buffer.Needed(c.l)
		same(t, c.name, []any{needed, e}, []any{c.want, c.e})
	}
}

// someSteps returns steps in which all kinds are mixed.
func someSteps(r *rand.Rand, n int) steps {
	var l steps
	number, most := 0, 2+r.Intn(6)
	for range n {
		switch r.Intn(most) {
		case 0:
			l = append(l, send(1+r.Intn(4)))
		case 1:
			l = append(l, []api.Step{ack(r.Intn(number + 2)), ack(r.Intn(number + 2)), reset}[r.Intn(3)])
		default:
			number++
			l = append(l, put(number))
		}
	}
	return l
}

// model does what the document says, with a mark for each packet.
type model struct {
	held          packets
	fresh         map[int]bool // not sent since put or reset
	sent          packets
	dropped       map[int]bool
	acks, refused []int
	reasons       errnos
	most          int
}

func (m *model) put(capacity, policy, n int) {
	var kept packets
	x := api.Packet{Seq: n, Tag: put(n).Tag, Sample: put(n).Sample}
	full, isDropped := len(m.held) == capacity, false
	for i, y := range m.held {
		if full && (policy == api.DropOldest && i == 0 || policy == api.Thin && (i+1)%2 == 0) {
			m.dropped[y.Seq] = true
			continue
		}
		kept = append(kept, y)
	}
	if full && policy == api.DropNewest {
		m.dropped[n], isDropped = true, true
	}
	if !isDropped {
		kept = append(kept, x)
		m.fresh[n] = true
	}
	m.held = kept
	m.most = max(m.most, len(kept))
}

func (m *model) send(count int) {
	for _, x := range m.held {
		if m.fresh[x.Seq] && count > 0 {
			m.sent = append(m.sent, x)
			m.fresh[x.Seq] = false
			count--
		}
	}
}

func (m *model) ack(i, seq int) {
	known := seq == 0 || slices.ContainsFunc(m.sent, func(x api.Packet) bool { return x.Seq == seq })
	greater := slices.ContainsFunc(m.acks, func(before int) bool { return before > seq })
	if !known || greater {
		m.refused = append(m.refused, i)
		m.reasons = append(m.reasons, map[bool]api.Errno{false: api.ErrNone, true: api.ErrOrder}[known])
		return
	}
	m.acks = append(m.acks, seq)
	m.held = slices.DeleteFunc(slices.Clone(m.held), func(x api.Packet) bool { return x.Seq <= seq })
}

func simulated(capacity, policy int, l steps) model {
	m := model{fresh: map[int]bool{}, dropped: map[int]bool{}}
	number := 0
	for i, x := range l {
		switch x.Kind {
		case api.BufferPut:
			number++
			m.put(capacity, policy, number)
		case api.BufferSend:
			m.send(x.Count)
		case api.BufferAck:
			m.ack(i, x.Seq)
		case api.BufferReset:
			for _, x := range m.held {
				m.fresh[x.Seq] = true
			}
		}
	}
	return m
}

// rowsOf returns the rows of the numbers below end for which has is true.
func rowsOf(end int, has func(n int) bool) rows {
	var list rows
	for n := range end {
		if !has(n) {
			continue
		}
		if n == 0 || !has(n-1) {
			list = append(list, api.Row{From: n})
		}
		list[len(list)-1].To = n + 1
	}
	return list
}

func TestP71AsTheDocumentSays(t *testing.T) {
	r := rand.New(rand.NewSource(71))
	found := map[string]int{}
	for range 3000 {
		l := someSteps(r, r.Intn(60))
		capacity, policy := 2+r.Intn(6), policies[r.Intn(3)]
		m := simulated(capacity, policy, l)
		what := fmt.Sprintf("capacity %d, policy %d, %v", capacity, policy, l)
		refused, reasons, _ := buffer.Refused(capacity, policy, l)
		same(t, "refused: "+what, []any{refused, reasons}, []any{m.refused, m.reasons})
		held, _ := buffer.Buffered(capacity, policy, l)
		same(t, "buffered: "+what, held, m.held)
		sent, _ := buffer.Sent(capacity, policy, l)
		same(t, "sent: "+what, sent, m.sent)
		dropped, _ := buffer.Dropped(capacity, policy, l)
		same(t, "dropped: "+what, dropped, rowsOf(len(l)+1, func(n int) bool { return m.dropped[n] }))
		needed, e := buffer.Needed(l)
		same(t, "needed: "+what, []any{needed, e}, []any{max(2, simulated(math.MaxInt, policy, l).most), api.OK})
		for _, reason := range reasons {
			found[fmt.Sprint(reason)]++
		}
		found["dropped"] += len(dropped)
	}
	if found[fmt.Sprint(api.ErrNone)] < 500 || found[fmt.Sprint(api.ErrOrder)] < 500 || found["dropped"] < 500 {
		t.Error(found)
	}
}

// TestP71NeededIsTheLeast: with the capacity that is needed nothing is dropped, with less something is, by all policies.
func TestP71NeededIsTheLeast(t *testing.T) {
	r := rand.New(rand.NewSource(72))
	for range 500 {
		l := someSteps(r, r.Intn(60))
		needed, _ := buffer.Needed(l)
		for _, policy := range policies {
			dropped, e := buffer.Dropped(needed, policy, l)
			same(t, "as needed", []any{dropped, e}, []any{"[]", api.OK})
			if needed == 2 {
				continue
			}
			dropped, _ = buffer.Dropped(needed-1, policy, l)
			if len(dropped) == 0 {
				t.Errorf("policy %d, %v: nothing dropped with %d", policy, l, needed-1)
			}
		}
	}
}

// TestP71NothingIsLost: each packet is in the buffer, dropped or acknowledged.
func TestP71NothingIsLost(t *testing.T) {
	r := rand.New(rand.NewSource(73))
	for range 500 {
		l := someSteps(r, r.Intn(80))
		capacity, policy := 2+r.Intn(6), policies[r.Intn(3)]
		m := simulated(capacity, policy, l)
		acked := 0
		for _, seq := range m.acks {
			acked = max(acked, seq)
		}
		held, _ := buffer.Buffered(capacity, policy, l)
		dropped, _ := buffer.Dropped(capacity, policy, l)
		all := map[int]bool{}
		for _, x := range held {
			all[x.Seq] = true
		}
		for _, x := range dropped {
			for n := x.From; n < x.To; n++ {
				if all[n] {
					t.Errorf("%d is in the buffer, and dropped", n)
				}
				all[n] = true
			}
		}
		number := 0
		for _, x := range l {
			if x.Kind == api.BufferPut {
				number++
				if !all[number] && number > acked {
					t.Errorf("%d is lost", number)
				}
			}
		}
	}
}

// TestP71EachPacketArrives: over a link that loses what it likes, with what the server has as acknowledgements.
func TestP71EachPacketArrives(t *testing.T) {
	r := rand.New(rand.NewSource(74))
	for range 50 {
		var l steps
		var got arrivals
		number, sent, at := 0, 0, 0
		for round := 0; round < 10 || number > 0; round++ {
			for range r.Intn(4) {
				if round < 10 {
					number++
					l = append(l, put(number))
				}
			}
			l = append(l, send(1+r.Intn(9)))
			all, e := buffer.Sent(1000, api.DropOldest, l)
			same(t, "Sent", e, api.OK)
			for _, x := range all[sent:] {
				at++
				if r.Intn(3) > 0 {
					got = append(got, api.Arrival{Node: "n", At: at, Packet: x})
				}
			}
			sent = len(all)
			complete, e := buffer.Complete(got, "n")
			same(t, "Complete", e, api.OK)
			l = append(l, ack(complete), reset)
			if held, _ := buffer.Buffered(1000, api.DropOldest, l); len(held) == 0 && round >= 10 {
				break
			}
			if round > 500 {
				t.Fatal("the buffer is never empty")
			}
		}
		refused, _, _ := buffer.Refused(1000, api.DropOldest, l)
		same(t, "refused", refused, "[]")
		missing, _ := buffer.Missing(got, "n")
		complete, _ := buffer.Complete(got, "n")
		same(t, "what arrived", []any{missing, complete}, []any{"[]", number})
	}
}
