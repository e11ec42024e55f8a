package plant_test

import (
	"fmt"
	"math"
	"math/rand"
	"slices"
	"sort"
	"strings"
	"testing"

	"plantlog/alarm"
	"plantlog/api"
	"plantlog/buffer"
	"plantlog/expr"
	"plantlog/plant"
	"plantlog/query"
	"plantlog/sample"
)

func TestP102Series(t *testing.T) {
	with := func(change func(b *api.Server)) api.Server {
		b := server()
		change(&b)
		return b
	}
	early := with(func(b *api.Server) {
		// A node whose clock is fast: its samples come before they are taken.
		b.Arrivals = arrivals{arrival("n3", 5, 1, "p1_temp", good(900, 1)), arrival("n3", 6, 2, "p1_temp", good(4, 2)), arrival("n3", 7, 3, "p1_flow", good(800, 2))}
	})
	again := with(func(b *api.Server) {
		// n1's clock is 3 behind: 5 and 8 of the two nodes are one moment.
		b.Arrivals = append(arrivals{arrival("n2", 9, 9, "p1_temp", good(8, 1))}, b.Arrivals...)
	})
	for name, c := range map[string]struct {
		b    api.Server
		tag  string
		at   int
		want samples
	}{
		"before all":                      {server(), "p1_temp", 9, nil},
		"at the first arrival":            {server(), "p1_temp", 10, samples{good(8, 7)}},
		"before the second one":           {server(), "p1_temp", 19, samples{good(8, 7)}},
		"at the second one":               {server(), "p1_temp", 20, samples{good(8, 7), good(13, 4)}},
		"before the fix":                  {server(), "p1_temp", 29, samples{good(8, 7), good(13, 4)}},
		"at the fix":                      {server(), "p1_temp", 30, samples{good(8, 7), good(13, 3)}},
		"in the end":                      {server(), "p1_temp", api.End - 1, samples{good(8, 7), good(13, 3), good(23, 9)}},
		"of a node with an empty clock":   {server(), "p2_temp", 40, samples{good(22, 8)}},
		"without arrivals":                {server(), "v-open", 40, nil},
		"samples after the moment":        {early, "p1_temp", 10, samples{good(4, 2), good(900, 1)}},
		"what arrived first, of a moment": {again, "p1_temp", 10, samples{good(8, 1)}},
		"a fix without arrivals":          {api.Server{Site: site(), Fixes: server().Fixes}, "p1_temp", 40, samples{good(13, 3)}},
		"fixes of another tag":            {api.Server{Site: site(), Fixes: server().Fixes}, "p1_flow", 40, nil},
		"calculated of nothing":           {server(), "p1_sum", 9, samples{bad(0)}},
		"calculated, a part is missing":   {server(), "p1_sum", 11, samples{bad(0)}},
		"calculated":                      {server(), "p1_sum", 12, samples{bad(0), good(9, 9)}},
		"calculated, later":               {server(), "p1_sum", 20, samples{bad(0), good(9, 9), good(13, 6)}},
		"calculated with a fix":           {server(), "p1_sum", 30, samples{bad(0), good(9, 9), good(13, 5)}},
		"calculated, always bad":          {server(), "p2_sum", 40, samples{bad(0)}},
		"calculated up to the moment":     {early, "p1_sum", 899, samples{bad(0), good(800, 5)}},
		"calculated at the moment":        {early, "p1_sum", 900, samples{bad(0), good(800, 5), good(900, 3)}},
		"calculated before":               {early, "p1_sum", 799, samples{bad(0)}},
		"calculated in the end":           {early, "p1_sum", api.End - 1, samples{bad(0), good(800, 5), good(900, 3)}},
	} {
		got, e := plant.Series(c.b, c.tag, c.at)
		same(t, name, []any{got, e}, []any{c.want, api.OK})
	}
}

func TestP102Value(t *testing.T) {
	b := server()
	b.Arrivals = append(b.Arrivals, arrival("n3", 36, 1, "v-open", bad(36)), arrival("n3", 36, 2, "p2_flow", uncertain(50, 1)))
	for name, c := range map[string]struct {
		tag  string
		at   int
		want api.Sample
		is   bool
	}{
		"before all":               {"p1_temp", 9, api.Sample{}, false},
		"the first one":            {"p1_temp", 10, good(8, 7), true},
		"the second one":           {"p1_temp", 20, good(13, 4), true},
		"the fixed one":            {"p1_temp", 30, good(13, 3), true},
		"the last one":             {"p1_temp", 35, good(23, 9), true},
		"in the end":               {"p1_temp", api.End - 1, good(23, 9), true},
		"one that is bad":          {"v-open", 36, bad(36), true},
		"before one":               {"v-open", 35, api.Sample{}, false},
		"only later samples":       {"p2_flow", 49, api.Sample{}, false},
		"no later samples":         {"p2_flow", 50, uncertain(50, 1), true},
		"calculated, that is bad":  {"p2_sum", 49, bad(0), true},
		"calculated":               {"p2_sum", 60, uncertain(50, 9), true},
		"calculated, at moment 0":  {"p2_sum", 0, bad(0), true},
		"calculated, as was known": {"p1_sum", 22, good(13, 6), true},
	} {
		got, is, e := plant.Value(b, c.tag, c.at)
		same(t, name, []any{got, is, e}, []any{c.want, c.is, api.OK})
	}
}

// shifts returns a calculated tag that depends on another one so often that it has too many shifted tags, and one that has too many moments.
func shifts() api.Site {
	s := siteOf(api.Template{
		Tags: names{"%"},
		Calcs: calcs{
			{Tag: "b%", Expr: "c%@1 + c%@2 + c%@4 + c%@8 + c%@16 + c%@32 + c%@64 + c%@128 + c%@256 + c%@512"},
			{Tag: "c%", Expr: "d%@1 + d%@2000 + d%@4000 + d%@6000 + d%@8000 + d%@10000 + d%@12000 + d%@14000 + d%@16000 + d%@18000"},
			{Tag: "d%", Expr: "e%@1 + e%@20000 + e%@40000 + e%@60000 + e%@80000 + e%@100000 + e%@120000 + e%@140000 + e%@160000 + e%@180000"},
			{Tag: "e%", Expr: "1"},
			{Tag: "f%", Expr: "%@1 + %@2000 + %@4000"},
		},
		Alarms: alarms{high("%", "%")},
	}, "a")
	return s
}

func TestP102Errors(t *testing.T) {
	full := api.Server{Site: shifts(), Arrivals: many(api.MaxPackets, func(i int) api.Arrival { return arrival("n", i, i+1, "a", good(i, 1)) })}
	for name, c := range map[string]struct {
		b    api.Server
		tag  string
		at   int
		want api.Errno
	}{
		"a wrong server":          {api.Server{Acts: acts{{}}}, "x", -1, api.ErrName},
		"no such tag":             {server(), "p1_x", 5, api.ErrNone},
		"no tag":                  {server(), "", -1, api.ErrNone},
		"an asset":                {server(), "p1", 5, api.ErrNone},
		"a pattern":               {server(), "%_temp", 5, api.ErrNone},
		"an alarm":                {server(), "p1_hot", 5, api.ErrNone},
		"a tag with fixes alone":  {server(), "x-1", 5, api.ErrNone},
		"no tag at no moment":     {server(), "x", -1, api.ErrNone},
		"at -1":                   {server(), "p1_temp", -1, api.ErrArg},
		"at the end":              {server(), "p1_temp", api.End, api.ErrArg},
		"at the least int":        {server(), "p1_sum", math.MinInt, api.ErrArg},
		"at the greatest int":     {server(), "p1_sum", math.MaxInt, api.ErrArg},
		"too many shifted tags":   {full, "ba", 5, api.ErrFull},
		"the same at no moment":   {full, "ba", -1, api.ErrArg},
		"not too many":            {full, "da", 5, api.OK},
		"too many moments":        {full, "fa", api.End - 1, api.ErrLarge},
		"not too many, as known":  {full, "fa", 1_600, api.OK},
		"a tag with full samples": {full, "a", api.End - 1, api.OK},
	} {
		l, e := plant.Series(c.b, c.tag, c.at)
		same(t, "Series: "+name, []any{len(l) > 0, e}, []any{c.want == api.OK, c.want})
		x, is, e := plant.Value(c.b, c.tag, c.at)
		same(t, "Value: "+name, []any{is, e}, []any{c.want == api.OK, c.want})
		if c.want != api.OK {
			same(t, "Value: "+name, x, api.Sample{})
		}
	}
}

// TestP102RepeatedArrivals: an arrival that is repeated changes nothing.
func TestP102RepeatedArrivals(t *testing.T) {
	r := rand.New(rand.NewSource(104))
	for range 100 {
		x := valid()
		x.b = someServer(r)
		y := x
		for range 5 {
			if l := x.b.Arrivals; len(l) > 0 {
				z := l[r.Intn(len(l))]
				z.At += 1 + r.Intn(30)
				b, e := plant.Merge(y.b, api.Server{Site: site(), Arrivals: arrivals{z}})
				same(t, "Merge", e, api.OK)
				y.b = b
			}
		}
		for _, call := range []string{"Series", "Value", "Standing", "Sum", "Report", "Revised"} {
			for i, z := range everyCall(x) {
				if z.name == call {
					same(t, call, everyCall(y)[i], z)
				}
			}
		}
	}
}

func TestP103Standing(t *testing.T) {
	stand := func(key string, state, since int) api.Standing {
		return api.Standing{Alarm: key, State: state, Since: since}
	}
	late := server()
	late.Acts = append(late.Acts, ack("bob", 1, 50, "p1_hot"))
	missing := server()
	missing.Site.Templates[0].Alarms[0].Tag = "x%"
	missing.Arrivals = append(missing.Arrivals, arrival("n9", 36, 1, "xp1", good(1, 9)))
	missing.Fixes = append(missing.Fixes, api.TagFixes{Tag: "xp2", Fixes: fixes{set("ann", 1, 9, good(1, 9))}})
	for name, c := range map[string]struct {
		b    api.Server
		at   int
		want []api.Standing
	}{
		"nothing":                     {api.Server{}, 0, nil},
		"before all":                  {server(), 9, nil},
		"what has just arrived":       {server(), 10, []api.Standing{stand("p1_hot", api.StateActive, 8)}},
		"calculated, but suppressed":  {server(), 12, []api.Standing{stand("p1_hot", api.StateActive, 8)}},
		"calculated":                  {server(), 20, []api.Standing{stand("p1_high", api.StateActive, 13)}},
		"fixed":                       {server(), 30, []api.Standing{stand("p2_hot", api.StateActive, 22)}},
		"acknowledged":                {server(), 35, []api.Standing{stand("p1_hot", api.StateActive, 23), stand("p2_hot", api.StateAcked, 35)}},
		"acknowledged later":          {late, 49, []api.Standing{stand("p1_hot", api.StateActive, 23), stand("p2_hot", api.StateAcked, 35)}},
		"all acknowledged":            {late, 50, []api.Standing{stand("p2_hot", api.StateAcked, 35), stand("p1_hot", api.StateAcked, 50)}},
		"of a tag that is not there":  {missing, 40, []api.Standing{stand("p1_high", api.StateActive, 23)}},
		"of a tag that is calculated": {missing, 12, []api.Standing{stand("p1_high", api.StateActive, 9)}},
	} {
		got, e := plant.Standing(c.b, c.at)
		same(t, name, []any{got, e}, []any{c.want, api.OK})
	}
}

func TestP103StandingErrors(t *testing.T) {
	watching := func(tags ...string) api.Server {
		b := api.Server{Site: shifts(), Arrivals: many(api.MaxPackets, func(i int) api.Arrival { return arrival("n", i, i+1, "a", good(i, 1)) })}
		b.Site.Templates[0].Alarms = many(len(tags), func(i int) api.Alarm { return high(numbered("a%")(i), tags[i]) })
		return b
	}
	for name, c := range map[string]struct {
		b    api.Server
		at   int
		want api.Errno
	}{
		"a wrong server":                      {api.Server{Acts: acts{{}}}, -1, api.ErrName},
		"at -1":                               {server(), -1, api.ErrArg},
		"at the end":                          {server(), api.End, api.ErrArg},
		"too many shifted tags":               {watching("b%"), 5, api.ErrFull},
		"the same at no moment":               {watching("b%"), -1, api.ErrArg},
		"too many moments":                    {watching("f%"), api.End - 1, api.ErrLarge},
		"too many of both, by tag":            {watching("f%", "b%"), api.End - 1, api.ErrFull},
		"a tag that is not watched, or twice": {watching("a", "a", "x", "c%"), api.End - 1, api.OK},
	} {
		got, e := plant.Standing(c.b, c.at)
		same(t, name, []any{got, e}, []any{"[]", c.want})
	}
}

func TestP103Sum(t *testing.T) {
	b := server()
	b.Arrivals = append(b.Arrivals, arrival("n3", 36, 1, "v-open", bad(36)), arrival("n3", 36, 2, "p2_flow", uncertain(50, -3)))
	for name, c := range map[string]struct {
		asset, pattern string
		at             int
		want           []any
	}{
		"the outermost":                   {"p1", "%_temp", 40, []any{17, 2, 0}},
		"one within":                      {"p2", "%_temp", 40, []any{8, 1, 0}},
		"one without the tag":             {"v", "%_temp", 40, []any{0, 0, 0}},
		"as was known":                    {"p1", "%_temp", 20, []any{4, 1, 1}},
		"before all":                      {"p1", "%_temp", 0, []any{0, 0, 2}},
		"a bad one":                       {"v", "%-open", 36, []any{0, 0, 1}},
		"a missing one":                   {"v", "%-open", 35, []any{0, 0, 1}},
		"an uncertain one":                {"p1", "%_flow", 50, []any{-1, 2, 0}},
		"one that is taken later":         {"p1", "%_flow", 49, []any{2, 1, 1}},
		"calculated ones":                 {"p1", "%_sum", 50, []any{16, 2, 0}},
		"calculated ones, one is bad":     {"p1", "%_sum", 49, []any{11, 1, 1}},
		"no tag at all":                   {"p1", "%_x", 40, []any{0, 0, 0}},
		"% alone":                         {"p1", "%", 40, []any{0, 0, 0}},
		"a pattern with several %":        {"p1", "%%_temp", 40, []any{0, 0, 0}},
		"an alarm is no tag":              {"p1", "%_hot", 40, []any{0, 0, 0}},
		"a pattern for one asset":         {"p1", "p%_temp", 40, []any{0, 0, 0}},
		"a tag of an asset that is above": {"v", "p1_temp%", 40, []any{0, 0, 0}},
	} {
		sum, count, others, e := plant.Sum(b, c.asset, c.pattern, c.at)
		same(t, name, []any{sum, count, others, e}, append(c.want, api.OK))
	}
	// A pattern can give a tag of another asset.
	s := siteOf(api.Template{Tags: names{"x%"}}, "a", "xa", "b")
	s.Assets[1], s.Assets[2] = s.Assets[2], s.Assets[1]
	s.Templates = append(s.Templates, api.Template{Key: "u"})
	s.Assets[0].Template = "u"
	c := api.Server{Site: s, Arrivals: arrivals{arrival("n", 1, 1, "xxa", good(1, 5))}}
	sum, count, others, e := plant.Sum(c, "a", "xx%", 9)
	same(t, "a tag of another asset", []any{sum, count, others, e}, []any{5, 1, 0, api.OK})
}

func TestP103SumErrors(t *testing.T) {
	full := api.Server{Site: shifts(), Arrivals: many(api.MaxPackets, func(i int) api.Arrival { return arrival("n", i, i+1, "a", good(i, 1)) })}
	for name, c := range map[string]struct {
		b              api.Server
		asset, pattern string
		at             int
		want           api.Errno
	}{
		"a wrong server":             {api.Server{Acts: acts{{}}}, "", "", -1, api.ErrName},
		"no such asset":              {server(), "x", "", -1, api.ErrNone},
		"no asset":                   {server(), "", "%", 0, api.ErrNone},
		"a tag":                      {server(), "p1_temp", "%", 0, api.ErrNone},
		"a pattern without %":        {server(), "p1", "p1_temp", -1, api.ErrForm},
		"an empty pattern":           {server(), "p1", "", 0, api.ErrForm},
		"at -1":                      {server(), "p1", "%", -1, api.ErrArg},
		"at the end":                 {server(), "p1", "%_temp", api.End, api.ErrArg},
		"too many shifted tags":      {full, "a", "b%", 5, api.ErrFull},
		"the same at no moment":      {full, "a", "b%", -1, api.ErrArg},
		"too many moments":           {full, "a", "f%", api.End - 1, api.ErrLarge},
		"not too many, as was known": {full, "a", "f%", 1_000, api.OK},
	} {
		sum, count, others, e := plant.Sum(c.b, c.asset, c.pattern, c.at)
		same(t, name, e, c.want)
		if e != api.OK {
			same(t, name, []any{sum, count, others}, []any{0, 0, 0})
		}
	}
	// Of two assets, the one whose name is less is asked first.
	s := shifts()
	for _, key := range []string{"b", "c"} {
		s.Assets = append(s.Assets, api.Asset{Key: key, Parent: "a", Template: "u"})
	}
	s.Assets[2].Template = "w"
	s.Templates = append(s.Templates, api.Template{Key: "u", Calcs: calcs{{Tag: "x%", Expr: "ba"}}}, api.Template{Key: "w", Calcs: calcs{{Tag: "x%", Expr: "fa"}}})
	full.Site = s
	_, _, _, e := plant.Sum(full, "a", "x%", api.End-1)
	same(t, "the error of the first one", e, api.ErrFull)
	full.Site.Assets[1].Template, full.Site.Assets[2].Template = "w", "u"
	_, _, _, e = plant.Sum(full, "a", "x%", api.End-1)
	same(t, "the error of the first one, in the other order", e, api.ErrLarge)
}

func TestP103Report(t *testing.T) {
	const hour, day = 3_600_000, api.DayLong
	b := server()
	b.Arrivals = arrivals{
		arrival("n2", 5, 1, "p1_temp", good(0, 10)),
		arrival("n2", day-2, 2, "p1_temp", good(hour, 20)),
		arrival("n2", day-1, 3, "p1_temp", good(hour+hour/2, 40)),
		arrival("n2", day, 4, "p1_temp", good(2*hour, 99)),
		arrival("n2", day+1, 5, "p1_temp", bad(day+hour)),
	}
	b.Fixes[0].Fixes = fixes{set("ann", 1, day-1, good(1, 30)), set("ann", 2, day, good(2, 0))}
	got, e := plant.Report(b, "p1_temp", 0)
	same(t, "day 0", []any{len(got), e}, []any{24, api.OK})
	want := hours(samples{good(0, 10), good(1, 30), good(hour, 20), good(hour+hour/2, 40)}, 0)
	same(t, "day 0", got, want)
	same(t, "the second hour", got[1], api.Bucket{Window: api.Window{From: hour, To: 2 * hour}, Good: hour, Average: api.Fraction{Num: 30, Den: 1}, Minimum: 20, Maximum: 40})
	same(t, "the third hour, as it was known", got[2].Average, api.Fraction{Num: 40, Den: 1})
	got, e = plant.Report(b, "p1_temp", 1)
	same(t, "day 1", []any{len(got), got[0].Minimum, got[1].Good, e}, []any{24, 99, 0, api.OK})
	got, e = plant.Report(b, "p1_temp", api.MaxDay)
	same(t, "the last day", []any{len(got), got[23].Window, e}, []any{24, api.Window{From: api.End - hour, To: api.End}, api.OK})
	got, e = plant.Report(server(), "p1_sum", 0)
	same(t, "a calculated tag", []any{got[0].Good, got[0].Maximum, e}, []any{hour - 9, 11, api.OK})
	got, e = plant.Report(server(), "v-open", 5)
	same(t, "nothing", []any{len(got), got[5], e}, []any{24, api.Bucket{Window: api.Window{From: 5*day + 5*hour, To: 5*day + 6*hour}}, api.OK})
}

// hours returns the hours of a day.
func hours(l samples, day int) []api.Bucket {
	got, _ := query.Buckets(l, api.Window{From: day * api.DayLong, To: (day + 1) * api.DayLong}, 3_600_000)
	return got
}

func TestP103ReportErrors(t *testing.T) {
	full := api.Server{Site: shifts(), Arrivals: many(api.MaxPackets, func(i int) api.Arrival { return arrival("n", i, i+1, "a", good(i, 1)) })}
	for name, c := range map[string]struct {
		b    api.Server
		tag  string
		day  int
		want api.Errno
	}{
		"a wrong server":               {api.Server{Acts: acts{{}}}, "x", -1, api.ErrName},
		"no such tag on no day":        {server(), "x", -1, api.ErrNone},
		"day -1":                       {server(), "p1_temp", -1, api.ErrArg},
		"after the last day":           {server(), "p1_temp", api.MaxDay + 1, api.ErrArg},
		"the least day":                {server(), "p1_temp", math.MinInt, api.ErrArg},
		"the greatest day":             {server(), "p1_temp", math.MaxInt, api.ErrArg},
		"the day before the end":       {server(), "p1_temp", api.MaxDay - 1, api.OK},
		"too many shifted tags":        {full, "ba", 0, api.ErrFull},
		"too many moments":             {full, "fa", 0, api.ErrLarge},
		"too many moments, no day":     {full, "fa", -1, api.ErrArg},
		"too many moments, not so far": {full, "a", 0, api.OK},
	} {
		got, e := plant.Report(c.b, c.tag, c.day)
		same(t, name, []any{len(got), e}, []any{map[bool]int{true: 24}[c.want == api.OK], c.want})
	}
	// Such a number of days has, in 64 bits, as many milliseconds as the day 0, or nearly.
	for shift := range 24 {
		_, e := plant.Report(server(), "p1_temp", 1<<(63-shift))
		same(t, fmt.Sprint("day 2 to the power of ", 63-shift), e, api.ErrArg)
	}
}

func TestP103Revised(t *testing.T) {
	b := server()
	b.Fixes = append(allFixes{{Tag: "p1_temp", Fixes: fixes{
		set("ann", 1, 30, good(13, 3)),
		set("ann", 2, 31, good(2, 2)),
		{By: "ann", No: 3, Made: 32, Kind: api.FixDelete, At: 8},
		set("ann", 4, 33, good(30, 1)),
		set("ann", 5, 50, good(8, 7)),
		set("ann", 6, 51, uncertain(13, 3)),
	}}}, b.Fixes[1:]...)
	for name, c := range map[string]struct {
		tag      string
		from, to int
		want     []int
	}{
		"nothing":                        {"p1_temp", 5, 5, nil},
		"nothing is before 0":            {"p1_temp", 0, 60, nil},
		"the same moment":                {"p1_temp", 40, 40, nil},
		"a moment without a change":      {"p1_temp", 36, 49, nil},
		"a late arrival":                 {"p1_temp", 9, 10, []int{8}},
		"a late arrival, not before":     {"p1_temp", 8, 10, nil},
		"at `from` is not before":        {"p1_temp", 13, 25, nil},
		"just before":                    {"p1_temp", 14, 25, []int{13}},
		"another value":                  {"p1_temp", 29, 30, []int{13}},
		"one more sample":                {"p1_temp", 30, 31, []int{2}},
		"one less":                       {"p1_temp", 31, 32, []int{8}},
		"all that was fixed":             {"p1_temp", 29, 40, []int{2, 8, 13, 23}},
		"a sample as it was before":      {"p1_temp", 31, 50, []int{23, 30}},
		"another quality":                {"p1_temp", 50, 51, []int{13}},
		"of a calculated tag":            {"p1_sum", 29, 30, []int{13}},
		"of a calculated tag, more":      {"p1_sum", 20, 32, []int{9, 13}},
		"of a calculated tag, nothing":   {"p2_sum", 20, 60, nil},
		"of a tag without changes":       {"p1_flow", 12, 60, nil},
		"up to the last moment":          {"p1_temp", api.End - 1, api.End - 1, nil},
		"from early to the last moment":  {"p1_flow", 10, api.End - 1, []int{9}},
		"not what is taken after `from`": {"p2_temp", 22, 60, nil},
	} {
		got, e := plant.Revised(b, c.tag, c.from, c.to)
		same(t, name, []any{got, e}, []any{c.want, api.OK})
	}
}

func TestP103RevisedErrors(t *testing.T) {
	full := api.Server{Site: shifts(), Arrivals: many(api.MaxPackets, func(i int) api.Arrival { return arrival("n", i, i+1, "a", good(i, 1)) })}
	for name, c := range map[string]struct {
		b        api.Server
		tag      string
		from, to int
		want     api.Errno
	}{
		"a wrong server":               {api.Server{Acts: acts{{}}}, "x", 5, 4, api.ErrName},
		"no such tag":                  {server(), "x", 5, 4, api.ErrNone},
		"from -1":                      {server(), "p1_temp", -1, 4, api.ErrArg},
		"to -1":                        {server(), "p1_temp", 0, -1, api.ErrArg},
		"to less than from":            {server(), "p1_temp", 5, 4, api.ErrArg},
		"from the end":                 {server(), "p1_temp", api.End, api.End, api.ErrArg},
		"to the end":                   {server(), "p1_temp", 5, api.End, api.ErrArg},
		"to the greatest int":          {server(), "p1_temp", 5, math.MaxInt, api.ErrArg},
		"from the least int":           {server(), "p1_temp", math.MinInt, 5, api.ErrArg},
		"too many shifted tags":        {full, "ba", 5, 5, api.ErrFull},
		"the same, to less than from":  {full, "ba", 5, 4, api.ErrArg},
		"too many moments at `to`":     {full, "fa", 5, api.End - 1, api.ErrLarge},
		"too many moments at `from`":   {full, "fa", api.End - 2, api.End - 1, api.ErrLarge},
		"too many moments, to the end": {full, "fa", api.End - 2, api.End, api.ErrArg},
	} {
		got, e := plant.Revised(c.b, c.tag, c.from, c.to)
		same(t, name, []any{got, e}, []any{"[]", c.want})
	}
}

// model answers as the document says, tag by tag, with the functions that it names.
type model struct {
	b  api.Server
	at int
}

func (m model) recorded(tag string) samples {
	l := slices.DeleteFunc(slices.Clone(m.b.Arrivals), func(x api.Arrival) bool { return x.At > m.at })
	stored, _, _ := buffer.Stored(l, m.b.Site.Clocks, tag)
	for _, x := range m.b.Fixes {
		if x.Tag == tag {
			stored, _ = sample.Fixed(stored, x.Fixes, m.at)
		}
	}
	return stored
}

func (m model) series(tag string) (samples, bool) {
	tags, _ := plant.Tags(m.b.Site)
	if slices.Contains(tags, tag) {
		return m.recorded(tag), true
	}
	var all []api.Series
	for _, x := range tags {
		all = append(all, api.Series{Tag: x, Samples: m.recorded(x)})
	}
	c, _ := plant.Calcs(m.b.Site)
	l, e := expr.Run(c, all, tag, api.Window{From: 0, To: m.at + 1})
	return l, e == api.OK
}

func (m model) standing() []api.Standing {
	l, _ := plant.Alarms(m.b.Site)
	watched := map[string]samples{}
	for _, x := range l {
		if s, ok := m.series(x.Tag); ok {
			watched[x.Tag] = s
		}
	}
	var s []api.Series
	for tag, x := range watched {
		s = append(s, api.Series{Tag: tag, Samples: x})
	}
	sort.Slice(s, func(i, j int) bool { return s[i].Tag < s[j].Tag })
	got, _ := alarm.Standing(l, s, slices.DeleteFunc(slices.Clone(m.b.Acts), func(x api.Act) bool { return x.At > m.at }), m.at)
	return got
}

func (m model) sum(asset, pattern string) []any {
	sum, count, others := 0, 0, 0
	for _, x := range m.b.Site.Assets {
		path, _ := plant.Path(m.b.Site, x.Key)
		l, ok := m.series(strings.ReplaceAll(pattern, "%", x.Key))
		if !ok || !slices.Contains(path, asset) {
			continue
		}
		l = slices.DeleteFunc(slices.Clone(l), func(x api.Sample) bool { return x.At > m.at })
		if len(l) == 0 || l[len(l)-1].Quality == api.Bad {
			others++
			continue
		}
		sum += l[len(l)-1].Value
		count++
	}
	return []any{sum, count, others, api.OK}
}

// revised returns the moments before `from` at which another model knows something else.
func (m model) revised(n model, tag string) []int {
	var list []int
	before, _ := m.series(tag)
	after, _ := n.series(tag)
	for at := range m.at {
		isAt := func(x api.Sample) bool { return x.At == at }
		i, j := slices.IndexFunc(before, isAt), slices.IndexFunc(after, isAt)
		if (i < 0) != (j < 0) || i >= 0 && before[i] != after[j] {
			list = append(list, at)
		}
	}
	return list
}

func TestP102P103AsTheDocumentSays(t *testing.T) {
	r := rand.New(rand.NewSource(105))
	for range 300 {
		b := someServer(r)
		b.Site.Clocks[0].Clock = clock{{Node: r.Intn(5), Server: r.Intn(5)}, {Node: 5 + r.Intn(9), Server: 5 + r.Intn(9)}}
		b.Site.Templates[0].Calcs[0].Expr = []string{"%_temp + %_flow", "if(good(%_temp), %_temp@3, p1_flow)", "abs(p2_temp@5) - 3 * v_x"}[r.Intn(3)]
		m := model{b, r.Intn(60)}
		n := model{b, m.at + r.Intn(20)}
		for _, tag := range []string{"p1_temp", "p1_flow", "p2_temp", "p2_flow", "v-open", "p1_sum", "p2_sum"} {
			want, _ := m.series(tag)
			got, e := plant.Series(b, tag, m.at)
			same(t, "Series", []any{got, e}, []any{want, api.OK})
			l := slices.DeleteFunc(slices.Clone(want), func(x api.Sample) bool { return x.At > m.at })
			last := append(samples{{}}, l...)[len(l)]
			x, is, e := plant.Value(b, tag, m.at)
			same(t, "Value", []any{x, is, e}, []any{last, len(l) > 0, api.OK})
			moments, e := plant.Revised(b, tag, m.at, n.at)
			same(t, "Revised", []any{moments, e}, []any{m.revised(n, tag), api.OK})
			day, _ := model{b, api.DayLong - 1}.series(tag)
			buckets, e := plant.Report(b, tag, 0)
			same(t, "Report", []any{buckets, e}, []any{hours(day, 0), api.OK})
		}
		standing, e := plant.Standing(b, m.at)
		same(t, "Standing", []any{standing, e}, []any{m.standing(), api.OK})
		for _, pattern := range []string{"%_temp", "%_sum", "%-open", "p%_flow", "%_x"} {
			asset := names{"p1", "p2", "v"}[r.Intn(3)]
			sum, count, others, e := plant.Sum(b, asset, pattern, m.at)
			same(t, "Sum", []any{sum, count, others, e}, m.sum(asset, pattern))
		}
	}
}
