package plant_test

import (
	"fmt"
	"math/rand"
	"slices"
	"testing"

	"plantlog/api"
	"plantlog/plant"
)

type (
	samples  = []api.Sample
	arrivals = []api.Arrival
	allFixes = []api.TagFixes
	fixes    = []api.Fix
	acts     = []api.Act
)

func good(at, value int) api.Sample { return api.Sample{At: at, Value: value, Quality: api.Good} }

func uncertain(at, value int) api.Sample {
	return api.Sample{At: at, Value: value, Quality: api.Uncertain}
}

func bad(at int) api.Sample { return api.Sample{At: at, Quality: api.Bad} }

func arrival(node string, at, seq int, tag string, x api.Sample) api.Arrival {
	return api.Arrival{Node: node, At: at, Packet: api.Packet{Seq: seq, Tag: tag, Sample: x}}
}

// set returns a fix that replaces a sample.
func set(by string, no, made int, x api.Sample) api.Fix {
	return api.Fix{By: by, No: no, Made: made, Kind: api.FixSet, Sample: x}
}

func ack(by string, no, at int, alarm string) api.Act {
	return api.Act{By: by, No: no, At: at, Kind: api.ActAck, Alarm: alarm}
}

// server returns a server of the site, made anew.
func server() api.Server {
	return api.Server{
		Site: site(),
		Arrivals: arrivals{
			arrival("n1", 10, 1, "p1_temp", good(5, 7)),
			arrival("n1", 12, 2, "p1_flow", good(6, 2)),
			arrival("n1", 20, 3, "p1_temp", good(10, 4)),
			arrival("n2", 30, 1, "p2_temp", good(22, 8)),
			arrival("n1", 35, 4, "p1_temp", good(20, 9)),
		},
		Fixes: allFixes{{Tag: "p1_temp", Fixes: fixes{set("ann", 1, 30, good(13, 3))}}, {Tag: "x-1"}},
		Acts:  acts{ack("ann", 1, 35, "p2_hot")},
	}
}

// other returns what another server of the site knows.
func other() api.Server {
	return api.Server{
		Site: site(),
		Arrivals: arrivals{
			arrival("n1", 10, 1, "p1_temp", good(5, 7)),
			arrival("n1", 13, 1, "p1_temp", good(5, 7)),
			arrival("n2", 31, 2, "p2_temp", bad(24)),
		},
		Fixes: allFixes{{Tag: "p1_flow", Fixes: fixes{set("bob", 1, 9, good(1, 1))}}, {Tag: "p1_temp", Fixes: fixes{set("bob", 1, 40, bad(8))}}},
		Acts:  acts{ack("bob", 1, 38, "p1_hot")},
	}
}

func TestP102CheckServer(t *testing.T) {
	tagged := func(tags ...string) allFixes {
		return many(len(tags), func(i int) api.TagFixes { return api.TagFixes{Tag: tags[i]} })
	}
	for name, c := range map[string]struct {
		b    api.Server
		want api.Errno
	}{
		"nothing":                          {api.Server{}, api.OK},
		"ordinary":                         {server(), api.OK},
		"another ordinary one":             {other(), api.OK},
		"a site that is wrong":             {api.Server{Site: siteOf(api.Template{}, "B"), Arrivals: make(arrivals, api.MaxPackets+1)}, api.ErrName},
		"of a tag that is not there":       {api.Server{Arrivals: arrivals{arrival("n", 1, 1, "t", good(1, 1))}}, api.OK},
		"an arrival of no node":            {api.Server{Arrivals: arrivals{{}}, Fixes: make(allFixes, api.MaxTags+1)}, api.ErrName},
		"arrivals out of order":            {api.Server{Arrivals: arrivals{arrival("n", 2, 1, "t", good(1, 1)), arrival("n", 1, 1, "t", good(1, 1))}}, api.ErrOrder},
		"arrivals in conflict":             {api.Server{Arrivals: arrivals{arrival("n", 1, 1, "t", good(1, 1)), arrival("n", 2, 1, "t", good(1, 2))}, Fixes: make(allFixes, api.MaxTags+1)}, api.ErrConflict},
		"too many arrivals":                {api.Server{Arrivals: make(arrivals, api.MaxPackets+1)}, api.ErrLarge},
		"as many fixes as can be":          {api.Server{Fixes: tagged(many(api.MaxTags, numbered("t"))...)}, api.OK},
		"too many fixes":                   {api.Server{Fixes: tagged(many(api.MaxTags+1, numbered("t"))...)}, api.ErrLarge},
		"too many fixes, without tags":     {api.Server{Fixes: make(allFixes, api.MaxTags+1), Acts: acts{{}}}, api.ErrLarge},
		"fixes of a tag that is no key":    {api.Server{Fixes: tagged("a", "B")}, api.ErrName},
		"fixes of a tag twice":             {api.Server{Fixes: tagged("a", "a")}, api.ErrOrder},
		"fixes of a lesser tag":            {api.Server{Fixes: tagged("b", "a")}, api.ErrOrder},
		"a lesser tag before none":         {api.Server{Fixes: tagged("b", "a", "")}, api.ErrOrder},
		"a lesser tag with a wrong fix":    {api.Server{Fixes: allFixes{{Tag: "b"}, {Tag: "a", Fixes: fixes{{}}}}}, api.ErrOrder},
		"a wrong fix before a lesser tag":  {api.Server{Fixes: allFixes{{Tag: "b", Fixes: fixes{{By: "ann"}}}, {Tag: "a"}}}, api.ErrArg},
		"too many fixes of a tag":          {api.Server{Fixes: allFixes{{Tag: "a", Fixes: make(fixes, api.MaxFixes+1)}}, Acts: acts{{}}}, api.ErrLarge},
		"fixes that come twice":            {api.Server{Fixes: allFixes{{Tag: "a", Fixes: fixes{set("ann", 1, 1, good(1, 1)), set("ann", 1, 2, good(1, 1))}}}, Acts: acts{{}}}, api.ErrTwice},
		"the same fixes of two tags":       {api.Server{Fixes: allFixes{{Tag: "a", Fixes: fixes{set("ann", 1, 1, good(1, 1))}}, {Tag: "b", Fixes: fixes{set("ann", 1, 1, good(1, 1))}}}}, api.OK},
		"an act that is wrong":             {api.Server{Acts: acts{ack("ann", 0, 1, "a")}}, api.ErrArg},
		"acts out of order":                {api.Server{Acts: acts{ack("ann", 1, 2, "a"), ack("ann", 2, 1, "a")}}, api.ErrOrder},
		"too many acts":                    {api.Server{Acts: make(acts, api.MaxActs+1)}, api.ErrLarge},
		"on an alarm that is not there":    {api.Server{Acts: acts{ack("ann", 1, 2, "a")}}, api.OK},
		"an arrival after the last moment": {api.Server{Arrivals: arrivals{arrival("n", api.End, 1, "t", good(1, 1))}}, api.ErrArg},
	} {
		same(t, name, plant.CheckServer(c.b), c.want)
	}
}

func TestP102Merge(t *testing.T) {
	want := api.Server{
		Site: site(),
		Arrivals: arrivals{
			arrival("n1", 10, 1, "p1_temp", good(5, 7)),
			arrival("n1", 12, 2, "p1_flow", good(6, 2)),
			arrival("n1", 13, 1, "p1_temp", good(5, 7)),
			arrival("n1", 20, 3, "p1_temp", good(10, 4)),
			arrival("n2", 30, 1, "p2_temp", good(22, 8)),
			arrival("n2", 31, 2, "p2_temp", bad(24)),
			arrival("n1", 35, 4, "p1_temp", good(20, 9)),
		},
		Fixes: allFixes{
			{Tag: "p1_flow", Fixes: fixes{set("bob", 1, 9, good(1, 1))}},
			{Tag: "p1_temp", Fixes: fixes{set("ann", 1, 30, good(13, 3)), set("bob", 1, 40, bad(8))}},
			{Tag: "x-1"},
		},
		Acts: acts{ack("ann", 1, 35, "p2_hot"), ack("bob", 1, 38, "p1_hot")},
	}
	for name, c := range map[string]struct{ a, b, want api.Server }{
		"two":                 {server(), other(), want},
		"in the other order":  {other(), server(), want},
		"again":               {want, other(), want},
		"of itself":           {server(), server(), server()},
		"of nothing":          {server(), api.Server{Site: site()}, server()},
		"of nothing at first": {api.Server{Site: site()}, server(), server()},
		"without a site":      {api.Server{}, api.Server{}, api.Server{}},
	} {
		got, e := plant.Merge(c.a, c.b)
		same(t, name, []any{got, e}, []any{c.want, api.OK})
	}
}

// TestP102MergeSites: any difference between the sites is a conflict.
func TestP102MergeSites(t *testing.T) {
	for name, change := range map[string]func(s *api.Site){
		"no clocks":         func(s *api.Site) { s.Clocks = nil },
		"another node":      func(s *api.Site) { s.Clocks[1].Node = "n3" },
		"another clock":     func(s *api.Site) { s.Clocks[0].Clock[0].Server++ },
		"a longer clock":    func(s *api.Site) { s.Clocks[1].Clock = clock{{}} },
		"one asset less":    func(s *api.Site) { s.Assets = s.Assets[:2] },
		"another asset":     func(s *api.Site) { s.Assets[2].Key = "w" },
		"another parent":    func(s *api.Site) { s.Assets[2].Parent = "p1" },
		"another template":  func(s *api.Site) { s.Assets[2].Template = "pump" },
		"one template more": func(s *api.Site) { s.Templates = append(s.Templates, api.Template{Key: "x"}) },
		"a template renamed": func(s *api.Site) {
			s.Templates = append(s.Templates[:1], api.Template{Key: "w"})
			s.Assets = s.Assets[:2]
		},
		"one tag more":            func(s *api.Site) { s.Templates[1].Tags = append(s.Templates[1].Tags, "%-x") },
		"another order of tags":   func(s *api.Site) { slices.Reverse(s.Templates[0].Tags) },
		"another tag":             func(s *api.Site) { s.Templates[1].Tags[0] = "%-x" },
		"another calculated tag":  func(s *api.Site) { s.Templates[0].Calcs[0].Tag = "%_sam" },
		"another expression":      func(s *api.Site) { s.Templates[0].Calcs[0].Expr += " " },
		"no calculated tags":      func(s *api.Site) { s.Templates[0].Calcs = nil },
		"another alarm":           func(s *api.Site) { s.Templates[1].Alarms[0].Key = "%_x" },
		"another limit":           func(s *api.Site) { s.Templates[1].Alarms[0].Limit++ },
		"a latched alarm":         func(s *api.Site) { s.Templates[1].Alarms[0].Latched = true },
		"another order of alarms": func(s *api.Site) { slices.Reverse(s.Templates[0].Alarms) },
	} {
		a, b := server(), other()
		change(&b.Site)
		same(t, name+" is valid", plant.CheckServer(b), api.OK)
		got, e := plant.Merge(a, b)
		same(t, name, []any{got, e}, []any{api.Server{}, api.ErrConflict})
		got, e = plant.Merge(b, a)
		same(t, name+", in the other order", []any{got, e}, []any{api.Server{}, api.ErrConflict})
	}
}

// TestP102MergeErrors: two servers between which all is wrong, and the errors, one after the other.
func TestP102MergeErrors(t *testing.T) {
	a, b := server(), other()
	a.Acts = acts{ack("ann", 1, 35, "p2_hot"), ack("bob", 2, 35, "x")}
	a.Fixes = append(allFixes{{Tag: "a", Fixes: many(api.MaxFixes, func(i int) api.Fix { return set("ann", i+1, i, good(1, 1)) })}}, many(api.MaxTags-1, func(i int) api.TagFixes { return api.TagFixes{Tag: numbered("t")(i)} })...)
	b.Fixes = allFixes{{Tag: "a", Fixes: fixes{set("bob", 1, 9, good(1, 1))}}, {Tag: "b"}, {Tag: "t000", Fixes: fixes{set("ann", 1, 1, good(1, 1))}}}
	a.Fixes[1].Fixes = fixes{set("ann", 1, 1, good(2, 1))}
	a.Arrivals = append(a.Arrivals, arrival("N", 1, 1, "t", good(1, 1)))
	b.Arrivals[2].At, b.Arrivals[2].Packet.Seq = 1, 4
	b.Site.Assets[2].Key = "w"
	for i, step := range []struct {
		want   api.Errno
		repair func()
	}{
		{api.ErrName, func() { a.Arrivals = a.Arrivals[:5] }},
		{api.ErrOrder, func() { b.Arrivals[2].At = 31 }},
		{api.ErrConflict, func() { b.Site = site() }},
		{api.ErrConflict, func() { b.Arrivals[2].Packet.Seq, b.Arrivals[2].Node = 2, "n2" }},
		{api.ErrLarge, func() { a.Fixes[0].Fixes = a.Fixes[0].Fixes[1:] }},
		{api.ErrConflict, func() { a.Fixes[1].Fixes = nil }},
		{api.ErrOrder, func() { a.Acts[1].At = 38 }},
		{api.ErrLarge, func() { b.Fixes = append(b.Fixes[:1], b.Fixes[2]) }},
		{api.OK, nil},
	} {
		if i == 3 {
			b.Arrivals[2].Node = "n1"
		}
		got, e := plant.Merge(a, b)
		same(t, fmt.Sprint("step ", i), e, step.want)
		if step.want == api.OK {
			same(t, "Fixes", len(got.Fixes), api.MaxTags)
			break
		}
		same(t, fmt.Sprint("the server of step ", i), got, api.Server{})
		step.repair()
	}
	a, b = server(), other()
	b.Arrivals[0].Node = "B"
	a.Acts[0].No = 0
	_, e := plant.Merge(a, b)
	same(t, "a is asked first", e, api.ErrArg)
}

// TestP102MergeLarge: as much as there can be, and one more of each.
func TestP102MergeLarge(t *testing.T) {
	first := func(n int) api.Server {
		return api.Server{
			Arrivals: many(n, func(i int) api.Arrival { return arrival("n", i, i+1, "t", good(i, i)) }),
			Fixes:    many(min(n, api.MaxTags), func(i int) api.TagFixes { return api.TagFixes{Tag: numbered("t")(i)} }),
		}
	}
	for name, c := range map[string]struct {
		b    api.Server
		want api.Errno
	}{
		"what is known":     {first(5), api.OK},
		"one more arrival":  {api.Server{Arrivals: arrivals{arrival("n", 5, api.MaxPackets+1, "t", good(1, 1))}}, api.ErrLarge},
		"one more tag":      {api.Server{Fixes: allFixes{{Tag: "x"}}}, api.ErrLarge},
		"a fix":             {api.Server{Fixes: allFixes{{Tag: "t000", Fixes: fixes{set("ann", 1, 1, good(1, 1))}}}}, api.OK},
		"a known arrival":   {api.Server{Arrivals: arrivals{arrival("n", 5, 6, "t", good(5, 5))}}, api.OK},
		"an act":            {api.Server{Acts: acts{ack("ann", api.MaxActs, 1, "a")}}, api.OK},
		"one that is wrong": {api.Server{Acts: acts{ack("ann", api.MaxActs+1, 1, "a")}}, api.ErrArg},
	} {
		_, e := plant.Merge(first(api.MaxPackets), c.b)
		same(t, name, e, c.want)
	}
	nodes := api.Server{Arrivals: many(api.MaxNodes, func(i int) api.Arrival { return arrival(numbered("n")(i), i, 1, "t", good(i, i)) })}
	_, e := plant.Merge(nodes, api.Server{Arrivals: arrivals{arrival("m", 0, 1, "t", good(0, 0))}})
	same(t, "one more node", e, api.ErrLarge)
}

// someServer returns a part of what several servers of the site know together; what it has is never in conflict with what another one has.
func someServer(r *rand.Rand) api.Server {
	b := api.Server{Site: site()}
	tags := names{"p1_temp", "p1_flow", "p2_temp", "p2_flow", "v-open", "x"}
	value := func(n int) api.Sample {
		return []api.Sample{good(n%23, n%11), good(n%23, n%13), uncertain(n%23, n%7), bad(n % 23)}[n%4]
	}
	for at := range 50 {
		if seq := 1 + (7*at+r.Intn(5))%20; r.Intn(3) == 0 {
			node := []string{"n1", "n2", "n3"}[seq%3]
			b.Arrivals = append(b.Arrivals, arrival(node, at, seq, tags[seq%6], value(seq*seq)))
		}
	}
	for i, tag := range tags {
		var l fixes
		for no := range 8 {
			// Fixes of one number are equal, and later ones are made later.
			if r.Intn(3) == 0 {
				l = append(l, someFix(i+no, no))
			}
		}
		if r.Intn(4) > 0 && tag != "v-open" {
			b.Fixes = append(b.Fixes, api.TagFixes{Tag: tag, Fixes: l})
		}
	}
	slices.SortFunc(b.Fixes, func(x, y api.TagFixes) int {
		if x.Tag < y.Tag {
			return -1
		}
		return 1
	})
	for _, by := range []string{"ann", "bob"} {
		for no := range 8 {
			if r.Intn(3) == 0 {
				b.Acts = append(b.Acts, ack(by, no+1, 6*no+len(by), names{"p1_hot", "p2_hot", "v_leaks", "p1_high"}[no%4]))
			}
		}
	}
	return b
}

func someFix(n, no int) api.Fix {
	x := api.Fix{By: "ann", No: no + 1, Made: 6 * no, Kind: n%3 + 1}
	switch x.Kind {
	case api.FixSet:
		x.Sample = uncertain(n%9, n)
	case api.FixDelete:
		x.At = n % 13
	case api.FixMark:
		x.Time, x.Quality = api.Window{From: n, To: n + 7}, n%2+1
	}
	return x
}

// TestP102MergeInAnyOrder: servers that are merged in any order are equal, and return the same values.
func TestP102MergeInAnyOrder(t *testing.T) {
	r := rand.New(rand.NewSource(103))
	merge := func(l ...api.Server) api.Server {
		t.Helper()
		b := api.Server{Site: site()}
		for _, x := range l {
			merged, e := plant.Merge(b, x)
			same(t, "Merge", e, api.OK)
			b = merged
		}
		return b
	}
	for range 100 {
		l := many(4, func(int) api.Server { return someServer(r) })
		b := merge(l...)
		again := slices.Clone(l)
		r.Shuffle(len(again), func(i, j int) { again[i], again[j] = again[j], again[i] })
		again = append(again, l[r.Intn(4)])
		same(t, "in another order", merge(again...), b)
		same(t, "in two groups", merge(merge(l[2:]...), merge(l[:2]...)), b)
		x, y := valid(), valid()
		x.b, y.b = b, merge(again...)
		same(t, "all values", everyCall(y), everyCall(x))
	}
}
