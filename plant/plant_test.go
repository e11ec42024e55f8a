package plant_test

import (
	"fmt"
	"math/rand"
	"slices"
	"strings"
	"testing"

	"plantlog/api"
	"plantlog/plant"
)

// same compares as printed, so that an empty and a nil list are the same.
func same(t *testing.T, what string, got, want any) {
	t.Helper()
	if g, w := fmt.Sprintf("%+v", got), fmt.Sprintf("%+v", want); g != w {
		t.Errorf("%s: got %.400s, want %.400s", what, g, w)
	}
}

type (
	templates = []api.Template
	assets    = []api.Asset
	calcs     = []api.Calc
	alarms    = []api.Alarm
	names     = []string
	clocks    = []api.NodeClock
	clock     = []api.Clock
)

// high returns an alarm of a tag that is above 5.
func high(key, tag string) api.Alarm {
	return api.Alarm{Key: key, Tag: tag, Kind: api.AlarmHigh, Limit: 5, Priority: 1}
}

// below returns an alarm with a parent.
func below(x api.Alarm, parent string) api.Alarm {
	x.Parent = parent
	return x
}

// site returns pumps p1 and p2, p2 with the valve v within p1, made anew.
func site() api.Site {
	return api.Site{
		Templates: templates{
			{Key: "pump", Tags: names{"%_temp", "%_flow"}, Calcs: calcs{{Tag: "%_sum", Expr: "%_temp + %_flow"}}, Alarms: alarms{high("%_hot", "%_temp"), below(high("%_high", "%_sum"), "%_hot")}},
			{Key: "valve", Tags: names{"%-open"}, Alarms: alarms{below(high("%_leaks", "p1_flow"), "p1_hot")}},
		},
		Assets: assets{{Key: "p1", Template: "pump"}, {Key: "p2", Parent: "p1", Template: "pump"}, {Key: "v", Parent: "p2", Template: "valve"}},
		Clocks: clocks{{Node: "n1", Clock: clock{{Node: 0, Server: 3}}}, {Node: "n2"}},
	}
}

// many returns a list that is made from the numbers from 0 on.
func many[T any](n int, of func(i int) T) []T {
	l := make([]T, n)
	for i := range l {
		l[i] = of(i)
	}
	return l
}

// numbered returns names of three digits that rise.
func numbered(prefix string) func(i int) string {
	return func(i int) string { return fmt.Sprintf("%s%03d", prefix, i) }
}

// siteOf returns a site of one template with some assets.
func siteOf(x api.Template, keys ...string) api.Site {
	x.Key = "t"
	s := api.Site{Templates: templates{x}}
	for _, key := range keys {
		s.Assets = append(s.Assets, api.Asset{Key: key, Template: "t"})
	}
	return s
}

func TestP101Example(t *testing.T) {
	s := siteOf(api.Template{Tags: names{"%_temp"}, Alarms: alarms{high("%_hot", "%_temp")}}, "p1", "p2")
	tags, e := plant.Tags(s)
	same(t, "Tags", []any{tags, e}, []any{names{"p1_temp", "p2_temp"}, api.OK})
	list, e := plant.Alarms(s)
	same(t, "Alarms", []any{list, e}, []any{alarms{high("p1_hot", "p1_temp"), high("p2_hot", "p2_temp")}, api.OK})
}

func TestP101Expanded(t *testing.T) {
	tags, e := plant.Tags(site())
	same(t, "Tags", []any{tags, e}, []any{names{"p1_flow", "p1_temp", "p2_flow", "p2_temp", "v-open"}, api.OK})
	c, e := plant.Calcs(site())
	same(t, "Calcs", []any{c, e}, []any{calcs{{Tag: "p1_sum", Expr: "p1_temp + p1_flow"}, {Tag: "p2_sum", Expr: "p2_temp + p2_flow"}}, api.OK})
	a, e := plant.Alarms(site())
	same(t, "Alarms", []any{a, e}, []any{alarms{below(high("p1_high", "p1_sum"), "p1_hot"), high("p1_hot", "p1_temp"), below(high("p2_high", "p2_sum"), "p2_hot"), high("p2_hot", "p2_temp"), below(high("v_leaks", "p1_flow"), "p1_hot")}, api.OK})

	s := siteOf(api.Template{Tags: names{"x%%_%"}, Calcs: calcs{{Tag: "c%%", Expr: "%+%%-1"}}}, "ab")
	tags, e = plant.Tags(s)
	same(t, "Tags with several %", []any{tags, e}, []any{names{"xabab_ab"}, api.OK})
	c, e = plant.Calcs(s)
	same(t, "Calcs with several %", []any{c, e}, []any{calcs{{Tag: "cabab", Expr: "ab+abab-1"}}, api.OK})

	// Sorted are the expanded strings, not the assets, nor the patterns.
	s = siteOf(api.Template{Tags: names{"y%", "x%"}, Calcs: calcs{{Tag: "d%", Expr: "2"}, {Tag: "c%", Expr: "1"}}, Alarms: alarms{high("b%", "x"), high("a%", "y")}}, "a", "b")
	tags, _ = plant.Tags(s)
	same(t, "Tags by name", tags, names{"xa", "xb", "ya", "yb"})
	c, _ = plant.Calcs(s)
	same(t, "Calcs by tag", c, calcs{{Tag: "ca", Expr: "1"}, {Tag: "cb", Expr: "1"}, {Tag: "da", Expr: "2"}, {Tag: "db", Expr: "2"}})
	a, _ = plant.Alarms(s)
	same(t, "Alarms by key", a, alarms{high("aa", "y"), high("ab", "y"), high("ba", "x"), high("bb", "x")})
}

func TestP101CheckSiteTemplates(t *testing.T) {
	keyed := func(keys ...string) api.Site {
		return api.Site{Templates: many(len(keys), func(i int) api.Template { return api.Template{Key: keys[i]} })}
	}
	of := func(l ...api.Template) api.Site { return api.Site{Templates: l} }
	pattern := func(int) string { return "%" }
	for name, c := range map[string]struct {
		s    api.Site
		want api.Errno
	}{
		"nothing":                            {api.Site{}, api.OK},
		"ordinary":                           {site(), api.OK},
		"as many as can be":                  {keyed(many(api.MaxTemplates, numbered("t"))...), api.OK},
		"too many":                           {keyed(many(api.MaxTemplates+1, numbered("t"))...), api.ErrLarge},
		"too many, without keys":             {keyed(make(names, api.MaxTemplates+1)...), api.ErrLarge},
		"a key with -":                       {keyed("t-1"), api.OK},
		"no key":                             {keyed("a", ""), api.ErrName},
		"a key that is none":                 {keyed("T"), api.ErrName},
		"a key that is too long":             {keyed(strings.Repeat("t", api.MaxName+1)), api.ErrName},
		"a key twice":                        {keyed("a", "a"), api.ErrOrder},
		"a lesser key":                       {keyed("b", "a"), api.ErrOrder},
		"no key before a lesser one":         {keyed("b", "", "a"), api.ErrName},
		"a lesser key before none":           {keyed("b", "a", ""), api.ErrOrder},
		"as many tags as can be":             {of(api.Template{Key: "t", Tags: many(api.MaxPatterns, pattern)}), api.OK},
		"too many tags":                      {of(api.Template{Key: "t", Tags: many(api.MaxPatterns+1, pattern)}), api.ErrLarge},
		"as many calculated tags as can be":  {of(api.Template{Key: "t", Calcs: many(api.MaxPatterns, func(int) api.Calc { return api.Calc{Tag: "%"} })}), api.OK},
		"too many calculated tags":           {of(api.Template{Key: "t", Calcs: many(api.MaxPatterns+1, func(int) api.Calc { return api.Calc{Tag: "%"} })}), api.ErrLarge},
		"as many alarms as can be":           {of(api.Template{Key: "t", Alarms: many(api.MaxPatterns, func(int) api.Alarm { return api.Alarm{Key: "%"} })}), api.OK},
		"too many alarms":                    {of(api.Template{Key: "t", Alarms: many(api.MaxPatterns+1, func(int) api.Alarm { return api.Alarm{Key: "%"} })}), api.ErrLarge},
		"too many tags, without %":           {of(api.Template{Key: "t", Tags: make(names, api.MaxPatterns+1)}), api.ErrLarge},
		"too many alarms, a tag without %":   {of(api.Template{Key: "t", Tags: names{"a"}, Alarms: make(alarms, api.MaxPatterns+1)}), api.ErrLarge},
		"a lesser key with too many tags":    {of(api.Template{Key: "t"}, api.Template{Key: "s", Tags: make(names, api.MaxPatterns+1)}), api.ErrOrder},
		"a tag without %":                    {of(api.Template{Key: "t", Tags: names{"%", "a"}}), api.ErrForm},
		"an empty tag":                       {of(api.Template{Key: "t", Tags: names{""}}), api.ErrForm},
		"a calculated tag without %":         {of(api.Template{Key: "t", Calcs: calcs{{Tag: "a", Expr: "%"}}}), api.ErrForm},
		"an alarm without %":                 {of(api.Template{Key: "t", Alarms: alarms{high("a", "%")}}), api.ErrForm},
		"no % in a template before a key":    {of(api.Template{Key: "t", Tags: names{"a"}}, api.Template{}), api.ErrForm},
		"expression, alarm's tag without %":  {siteOf(api.Template{Calcs: calcs{{Tag: "%", Expr: "1"}}, Alarms: alarms{high("%", "t")}}, "a"), api.OK},
		"patterns that no asset has":         {of(api.Template{Key: "t", Tags: names{"% ", "% ", "-%"}, Calcs: calcs{{Tag: "%-"}}, Alarms: alarms{{Key: "%"}}}), api.OK},
		"an unused template without %":       {of(api.Template{Key: "t", Tags: names{"a"}}), api.ErrForm},
		"a template's error before assets'":  {api.Site{Templates: templates{{}}, Assets: make(assets, api.MaxAssets+1)}, api.ErrName},
		"a template without % before assets": {api.Site{Templates: templates{{Key: "t", Tags: names{""}}}, Assets: make(assets, api.MaxAssets+1)}, api.ErrForm},
	} {
		same(t, name, plant.CheckSite(c.s), c.want)
	}
}

func TestP101CheckSiteAssets(t *testing.T) {
	of := func(l ...api.Asset) api.Site { return api.Site{Templates: templates{{Key: "t"}}, Assets: l} }
	ordinary := func(keys ...string) api.Site { return siteOf(api.Template{}, keys...) }
	chain := func(n int, last string) api.Site {
		s := ordinary(many(n, numbered("a"))...)
		for i := range n - 1 {
			s.Assets[i].Parent = s.Assets[i+1].Key
		}
		s.Assets[n-1].Parent = last
		return s
	}
	for name, c := range map[string]struct {
		s    api.Site
		want api.Errno
	}{
		"as many as can be":                 {ordinary(many(api.MaxAssets, numbered("a"))...), api.OK},
		"too many":                          {ordinary(many(api.MaxAssets+1, numbered("a"))...), api.ErrLarge},
		"too many, without keys":            {of(make(assets, api.MaxAssets+1)...), api.ErrLarge},
		"a key with all that it can have":   {ordinary("a_09z"), api.OK},
		"no key":                            {ordinary("a", ""), api.ErrName},
		"a key that is none":                {ordinary("1a"), api.ErrName},
		"a key of greatest length":          {ordinary(strings.Repeat("a", api.MaxName)), api.OK},
		"a key that is too long":            {ordinary(strings.Repeat("a", api.MaxName+1)), api.ErrName},
		"a key with -":                      {ordinary("a-b"), api.ErrName},
		"a key with - at its end":           {ordinary("a-"), api.ErrName},
		"no such template":                  {of(api.Asset{Key: "a", Template: "u"}), api.ErrNone},
		"no template":                       {of(api.Asset{Key: "a"}), api.ErrNone},
		"no key and no template":            {of(api.Asset{Key: "a-"}), api.ErrName},
		"a key twice":                       {ordinary("a", "a"), api.ErrOrder},
		"a lesser key":                      {ordinary("b", "a"), api.ErrOrder},
		"a lesser key and no template":      {of(api.Asset{Key: "b", Template: "t"}, api.Asset{Key: "a"}), api.ErrNone},
		"a lesser key before no key":        {of(api.Asset{Key: "b", Template: "t"}, api.Asset{Key: "a", Template: "t"}, api.Asset{}), api.ErrOrder},
		"a parent that is later":            {of(api.Asset{Key: "a", Parent: "b", Template: "t"}, api.Asset{Key: "b", Template: "t"}), api.OK},
		"no such parent":                    {of(api.Asset{Key: "a", Parent: "b", Template: "t"}), api.ErrNone},
		"a template as a parent":            {of(api.Asset{Key: "a", Parent: "t", Template: "t"}), api.ErrNone},
		"no such parent before a lesser":    {of(api.Asset{Key: "b", Parent: "x", Template: "t"}, api.Asset{Key: "a", Template: "t"}), api.ErrOrder},
		"within itself":                     {of(api.Asset{Key: "a", Parent: "a", Template: "t"}), api.ErrLoop},
		"within each other":                 {of(api.Asset{Key: "a", Parent: "b", Template: "t"}, api.Asset{Key: "b", Parent: "a", Template: "t"}), api.ErrLoop},
		"a loop before one without parent":  {of(api.Asset{Key: "a", Parent: "a", Template: "t"}, api.Asset{Key: "b", Parent: "x", Template: "t"}), api.ErrNone},
		"a parent in a loop":                {of(api.Asset{Key: "a", Parent: "b", Template: "t"}, api.Asset{Key: "b", Parent: "b", Template: "t"}), api.ErrLoop},
		"the longest chain":                 {chain(api.MaxAssets, ""), api.OK},
		"the longest loop":                  {chain(api.MaxAssets, "a000"), api.ErrLoop},
		"a loop at the end of a long chain": {chain(api.MaxAssets, "a199"), api.ErrLoop},
	} {
		same(t, name, plant.CheckSite(c.s), c.want)
	}
}

func TestP101CheckSiteTogether(t *testing.T) {
	long := strings.Repeat("x", api.MaxName)
	calc := func(tag, expr string) api.Calc { return api.Calc{Tag: tag, Expr: expr} }
	tags := func(patterns ...string) api.Template { return api.Template{Tags: patterns} }
	calculated := func(c ...api.Calc) api.Template { return api.Template{Calcs: c} }
	alarmed := func(a ...api.Alarm) api.Template { return api.Template{Alarms: a} }
	wrong := high("%", "t")
	wrong.Kind = 9
	for name, c := range map[string]struct {
		x    api.Template
		keys names
		want api.Errno
	}{
		"a tag of greatest length":             {tags(long[1:] + "%"), names{"a"}, api.OK},
		"a tag that is too long":               {tags(long[1:] + "%"), names{"a", "bb"}, api.ErrName},
		"a tag with a capital letter":          {tags("%T"), names{"a"}, api.ErrName},
		"a tag that begins with _":             {tags("_%"), names{"a"}, api.ErrName},
		"a tag with -":                         {tags("%-"), names{"a"}, api.OK},
		"a tag that is no key and one twice":   {tags("%", "%", "%!"), names{"a"}, api.ErrName},
		"a tag twice in a template":            {tags("%", "%"), names{"a"}, api.ErrTwice},
		"one tag of two patterns":              {tags("a%", "%a"), names{"a"}, api.ErrTwice},
		"one tag of two assets":                {tags("%_b_c", "%_c"), names{"a", "a_b"}, api.ErrTwice},
		"a tag that is calculated as well":     {api.Template{Tags: names{"%"}, Calcs: calcs{calc("%", "1")}}, names{"a"}, api.ErrTwice},
		"a calculated tag twice":               {calculated(calc("%", "1"), calc("%", "1")), names{"a"}, api.ErrTwice},
		"a wrong calculated tag twice":         {calculated(calc("%!", ""), calc("%!", "")), names{"a"}, api.ErrTwice},
		"long calculated tags":                 {calculated(calc(long+long+"%", "1"), calc(long+"%"+long, "1")), names{"a"}, api.ErrName},
		"a long calculated tag twice":          {calculated(calc(long+long+"%", "1"), calc(long+"%"+long, "1")), names{"x"}, api.ErrTwice},
		"as many tags as can be":               {tags("a%", "b%"), many(api.MaxTags/2, numbered("a")), api.OK},
		"too many tags":                        {tags("a%", "b%"), many(api.MaxTags/2+1, numbered("a")), api.ErrLarge},
		"too many tags, one twice":             {tags("a%", "aa%"), append(many(api.MaxTags/2, numbered("a")), "b000", "ba"), api.ErrLarge},
		"too many tags, one of them twice":     {tags("a%", "aa%"), append(names{"aa000"}, many(api.MaxTags/2, numbered("b"))...), api.ErrLarge},
		"too many tags with one twice":         {tags("a%", "aa%"), append(append(names{"a0"}, many(api.MaxTags/2, numbered("aa"))...), "aaa0", "b"), api.ErrLarge},
		"a tag twice among too many":           {tags("%_b_c", "%_c"), append(names{"a", "a_b"}, many(api.MaxTags/2, numbered("b"))...), api.ErrTwice},
		"too many calculated tags":             {calculated(calc("a%", "1"), calc("b%", "1")), many(api.MaxCalcs/2+1, numbered("a")), api.ErrLarge},
		"as many calculated tags as can be":    {calculated(calc("a%", "1"), calc("b%", "1")), many(api.MaxCalcs/2, numbered("a")), api.OK},
		"tags and calculated tags":             {api.Template{Tags: names{"a%", "b%"}, Calcs: calcs{calc("c%", "a% + b%")}}, many(api.MaxTags/2, numbered("a")), api.OK},
		"a calculated tag that is no key":      {calculated(calc("%!", "1")), names{"a"}, api.ErrName},
		"a calculated tag with -":              {calculated(calc("%-a", "1")), names{"a"}, api.ErrName},
		"a calculated tag that is a function":  {calculated(calc("%", "1")), names{"min"}, api.ErrName},
		"a tag that is a function":             {tags("%"), names{"min"}, api.OK},
		"no expression":                        {calculated(calc("%", "%!")), names{"a"}, api.ErrSyntax},
		"an expression that gets too long":     {calculated(calc("%", strings.Repeat("%+", api.MaxExpr/4)+"1")), names{"a", "bcde"}, api.ErrLarge},
		"a name that gets too long":            {calculated(calc("%", "x%")), names{long}, api.ErrSyntax},
		"an error of the first tag":            {calculated(calc("b%", "!"), calc("a%-", "1")), names{"a"}, api.ErrName},
		"an error of the first tag, not asset": {calculated(calc("x%", "1-")), names{"a"}, api.ErrSyntax},
		"of itself":                            {calculated(calc("%", "% + 1")), names{"a"}, api.ErrLoop},
		"of other assets":                      {calculated(calc("x%", "ya - yb"), calc("y%", "1")), names{"a", "b"}, api.OK},
		"of each other":                        {calculated(calc("x%", "yb"), calc("y%", "xb")), names{"a", "b"}, api.ErrLoop},
		"a loop and no expression":             {calculated(calc("%", "%"), calc("%x", "")), names{"a"}, api.ErrSyntax},
		"a loop and a wrong alarm":             {api.Template{Calcs: calcs{calc("%", "%")}, Alarms: alarms{wrong}}, names{"a"}, api.ErrLoop},
		"as many alarms as can be":             {alarmed(high("a%", "t"), high("b%", "t")), many(api.MaxAlarms/2, numbered("a")), api.OK},
		"too many alarms":                      {alarmed(high("a%", "t"), high("b%", "t")), append(many(api.MaxAlarms/2, numbered("a")), "b"), api.ErrLarge},
		"an alarm that is no key":              {alarmed(high("%!", "t")), names{"a"}, api.ErrName},
		"an alarm of no key":                   {alarmed(high("%", "%!")), names{"a"}, api.ErrName},
		"an alarm of a tag that is not there":  {alarmed(high("%", "%-x")), names{"a"}, api.OK},
		"an alarm twice":                       {alarmed(high("%", "t"), high("%", "t")), names{"a"}, api.ErrOrder},
		"an alarm twice, the first one wrong":  {alarmed(wrong, high("%", "")), names{"a"}, api.ErrKind},
		"an alarm twice, the second one wrong": {alarmed(high("%", ""), wrong), names{"a"}, api.ErrName},
		"an alarm of two assets":               {alarmed(high("%_b_c", "%"), high("%_c", "%!")), names{"a", "a_b"}, api.ErrName},
		"an alarm of two assets, in order":     {alarmed(high("%_c", "%!"), high("%_b_c", "%")), names{"a", "a_b"}, api.ErrName},
		"a parent of the same asset":           {alarmed(high("a%", "t"), below(high("b%", "t"), "a%")), names{"a", "b"}, api.OK},
		"a parent of one asset":                {alarmed(high("a%", "t"), below(high("b%", "t"), "ab")), names{"a", "b"}, api.OK},
		"no such parent":                       {alarmed(below(high("b%", "t"), "a%")), names{"a", "b"}, api.ErrNone},
		"parents in a loop":                    {alarmed(below(high("a%", "t"), "b%"), below(high("b%", "t"), "a%")), names{"a"}, api.ErrLoop},
	} {
		same(t, name, plant.CheckSite(siteOf(c.x, c.keys...)), c.want)
	}
}

// TestP101EqualAlarms: of alarms with one key, that of the asset that is first comes first, then that of the pattern.
func TestP101EqualAlarms(t *testing.T) {
	kind := func(key string) api.Alarm { return api.Alarm{Key: key, Tag: "t"} }
	limit := func(key string) api.Alarm {
		return api.Alarm{Key: key, Tag: "t", Kind: api.AlarmHigh, Limit: api.MaxValue + 1}
	}
	// The assets a and a_b both have a_b_c; the order of their templates does not matter.
	both := func(ofA, ofAB api.Alarm) []api.Site {
		templateOf := func(key string, x api.Alarm) api.Template { return api.Template{Key: key, Alarms: alarms{x}} }
		return []api.Site{
			{Templates: templates{templateOf("t", ofA), templateOf("u", ofAB)}, Assets: assets{{Key: "a", Template: "t"}, {Key: "a_b", Template: "u"}}},
			{Templates: templates{templateOf("t", ofAB), templateOf("u", ofA)}, Assets: assets{{Key: "a", Template: "u"}, {Key: "a_b", Template: "t"}}},
		}
	}
	for i := range 2 {
		same(t, "an alarm twice", plant.CheckSite(both(high("%_b_c", "t"), high("%_c", "t"))[i]), api.ErrOrder)
		same(t, "the kind is wrong first", plant.CheckSite(both(kind("%_b_c"), limit("%_c"))[i]), api.ErrKind)
		same(t, "the limit is wrong first", plant.CheckSite(both(limit("%_b_c"), kind("%_c"))[i]), api.ErrArg)
	}
	r := rand.New(rand.NewSource(107))
	for range 100 {
		// All are wrong, so that the error is that of the first one.
		var least api.Alarm
		l := many(api.MaxPatterns, func(int) api.Alarm {
			x := []api.Alarm{kind(""), limit("")}[r.Intn(2)]
			x.Key = []string{"b%", "c%", "d%"}[r.Intn(3)]
			if least.Key == "" || x.Key < least.Key {
				least = x
			}
			return x
		})
		want := api.ErrArg
		if least.Kind == 0 {
			want = api.ErrKind
		}
		same(t, fmt.Sprint(l), plant.CheckSite(siteOf(api.Template{Alarms: l}, many(api.MaxAlarms/api.MaxPatterns, numbered("a"))...)), want)
	}
}

func TestP101CheckSiteClocks(t *testing.T) {
	of := func(nodes ...string) clocks {
		return many(len(nodes), func(i int) api.NodeClock { return api.NodeClock{Node: nodes[i]} })
	}
	for name, c := range map[string]struct {
		c    clocks
		want api.Errno
	}{
		"none":                      {nil, api.OK},
		"two":                       {of("a", "b-"), api.OK},
		"as many as can be":         {of(many(api.MaxNodes, numbered("n"))...), api.OK},
		"too many":                  {of(many(api.MaxNodes+1, numbered("n"))...), api.ErrLarge},
		"too many, without names":   {make(clocks, api.MaxNodes+1), api.ErrLarge},
		"no node":                   {of("a", ""), api.ErrName},
		"a node twice":              {of("a", "a"), api.ErrOrder},
		"a lesser node":             {of("b", "a"), api.ErrOrder},
		"a lesser node before none": {of("b", "a", ""), api.ErrOrder},
		"a clock that goes wrong":   {clocks{{Node: "a", Clock: clock{{Node: 0, Server: api.MaxSkew + 1}}}}, api.ErrArg},
		"a clock that stands still": {clocks{{Node: "a", Clock: clock{{Node: 5, Server: 5}, {Node: 6, Server: 5}}}}, api.ErrOrder},
		"a clock and a lesser node": {clocks{{Node: "b", Clock: clock{{Node: -1}}}, {Node: "a"}}, api.ErrArg},
		"a lesser node and a clock": {clocks{{Node: "b"}, {Node: "a", Clock: clock{{Node: -1}}}}, api.ErrOrder},
		"a clock that is too long":  {clocks{{Node: "a", Clock: make(clock, api.MaxPackets+1)}}, api.ErrLarge},
	} {
		s := site()
		s.Clocks = c.c
		same(t, name, plant.CheckSite(s), c.want)
	}
}

// TestP101ErrorsInOrder: a site in which all is wrong, and its errors, one after the other.
func TestP101ErrorsInOrder(t *testing.T) {
	s := api.Site{
		Templates: append(templates{{Key: "T"}, {Key: "b", Tags: make(names, api.MaxPatterns+1)}, {Key: "a", Calcs: calcs{{Tag: "x"}}}}, make(templates, api.MaxTemplates)...),
		Assets:    append(assets{{Key: "b-", Template: "z"}, {Key: "a", Parent: "z", Template: "z"}}, make(assets, api.MaxAssets)...),
		Clocks:    append(clocks{{}, {Node: "b", Clock: clock{{Node: -1}}}, {Node: "a"}}, make(clocks, api.MaxNodes)...),
	}
	more := many(api.MaxTags/2, func(i int) api.Asset { return api.Asset{Key: numbered("d")(i), Template: "b"} })
	for i, step := range []struct {
		want   api.Errno
		repair func()
	}{
		{api.ErrLarge, func() { s.Templates = s.Templates[:3] }},
		{api.ErrName, func() { s.Templates[0].Key = "a" }},
		{api.ErrLarge, func() { s.Templates[1].Tags = names{"%", ""} }},
		{api.ErrForm, func() { s.Templates[1].Tags = names{"%", "%!"} }},
		{api.ErrOrder, func() { s.Templates[2].Key = "c" }},
		{api.ErrForm, func() { s.Templates[2].Calcs[0].Tag = "x%" }},
		{api.ErrLarge, func() { s.Assets = s.Assets[:2] }},
		{api.ErrName, func() { s.Assets[0].Key = "b" }},
		{api.ErrNone, func() { s.Assets[0].Template = "b" }},
		{api.ErrNone, func() { s.Assets[1].Template = "c" }},
		{api.ErrOrder, func() { s.Assets[1].Key = "c" }},
		{api.ErrNone, func() { s.Assets[1].Parent = "c" }},
		{api.ErrLoop, func() { s.Assets[1].Parent = "b" }},
		{api.ErrName, func() { s.Templates[1].Tags = names{"%", "%"} }},
		{api.ErrTwice, func() { s.Templates[1].Tags, s.Assets = names{"%", "%_x"}, slices.Concat(s.Assets, more) }},
		{api.ErrLarge, func() { s.Assets = s.Assets[:2] }},
		{api.ErrSyntax, func() { s.Templates[2].Calcs[0].Expr, s.Templates[2].Alarms = "x%", alarms{{Key: "%", Tag: "t"}} }},
		{api.ErrLoop, func() { s.Templates[2].Calcs[0].Expr = "1" }},
		{api.ErrKind, func() { s.Templates[2].Alarms = nil }},
		{api.ErrLarge, func() { s.Clocks = s.Clocks[:3] }},
		{api.ErrName, func() { s.Clocks[0].Node = "a" }},
		{api.ErrArg, func() { s.Clocks[1].Clock = nil }},
		{api.ErrOrder, func() { s.Clocks[2].Node = "c" }},
		{api.OK, nil},
	} {
		same(t, fmt.Sprint("CheckSite in step ", i), plant.CheckSite(s), step.want)
		if step.want == api.OK {
			break
		}
		// All others return this error first, whatever else is wrong.
		for _, x := range everyCall(arguments{s: s, b: api.Server{Site: s, Arrivals: make(arrivals, api.MaxPackets+1)}, script: "what"}) {
			same(t, fmt.Sprint(x.name, " in step ", i), x.e, step.want)
			expectZero(t, x)
		}
		step.repair()
	}
}

func TestP101PathAndUnder(t *testing.T) {
	for asset, c := range map[string]struct{ path, under names }{
		"p1": {names{"p1"}, names{"p1", "p2", "v"}},
		"p2": {names{"p1", "p2"}, names{"p2", "v"}},
		"v":  {names{"p1", "p2", "v"}, names{"v"}},
	} {
		path, e := plant.Path(site(), asset)
		same(t, "Path of "+asset, []any{path, e}, []any{c.path, api.OK})
		under, e := plant.Under(site(), asset)
		same(t, "Under "+asset, []any{under, e}, []any{c.under, api.OK})
	}
	for _, asset := range []string{"", "p", "p3", "pump", "p1_temp", strings.Repeat("p", 200_000)} {
		path, e := plant.Path(site(), asset)
		same(t, "Path of "+asset[:min(len(asset), 9)], []any{path, e}, []any{names{}, api.ErrNone})
		under, e := plant.Under(site(), asset)
		same(t, "Under "+asset[:min(len(asset), 9)], []any{under, e}, []any{names{}, api.ErrNone})
	}
}

// TestP101TreesAsTheDocumentSays: an asset is within its parent, and within all that this is within.
func TestP101TreesAsTheDocumentSays(t *testing.T) {
	r := rand.New(rand.NewSource(101))
	for range 300 {
		s := siteOf(api.Template{}, many(1+r.Intn(12), numbered("a"))...)
		n := len(s.Assets)
		order := r.Perm(n) // each one is within one that is before it here, or within none
		for i, k := range order {
			if i > 0 && r.Intn(4) > 0 {
				s.Assets[k].Parent = s.Assets[order[r.Intn(i)]].Key
			}
		}
		within := map[[2]string]bool{}
		for range n {
			for _, x := range s.Assets {
				for _, y := range s.Assets {
					if x.Key == y.Key || x.Parent != "" && within[[2]string{x.Parent, y.Key}] {
						within[[2]string{x.Key, y.Key}] = true
					}
				}
			}
		}
		for _, x := range s.Assets {
			var above, below names
			for _, y := range s.Assets {
				if within[[2]string{x.Key, y.Key}] {
					above = append(above, y.Key)
				}
				if within[[2]string{y.Key, x.Key}] {
					below = append(below, y.Key)
				}
			}
			path, e := plant.Path(s, x.Key)
			same(t, "the last of Path", []any{path[len(path)-1], e}, []any{x.Key, api.OK})
			for i := range len(path) - 1 {
				same(t, "Path goes inwards", within[[2]string{path[i+1], path[i]}], true)
			}
			slices.Sort(path)
			same(t, "all of Path", path, above)
			under, e := plant.Under(s, x.Key)
			same(t, "Under", []any{under, e}, []any{below, api.OK})
		}
	}
}

// TestP101ExpandedAsTheDocumentSays: what is expanded, and whether a tag is there twice, for names that look alike.
func TestP101ExpandedAsTheDocumentSays(t *testing.T) {
	r := rand.New(rand.NewSource(102))
	part := func() string { return []string{"%", "a", "%%", "_", "a_", "b"}[r.Intn(6)] }
	pattern := func() string { return "a" + part() + "%" + part() }
	results := map[api.Errno]int{}
	for range 2000 {
		s := siteOf(api.Template{}, "a", "a_", "aa", "b")
		s.Templates = append(s.Templates, api.Template{Key: "u"})
		s.Assets = s.Assets[r.Intn(3):]
		for i := range s.Templates {
			x := &s.Templates[i]
			x.Tags = many(r.Intn(3), func(int) string { return pattern() })
			x.Calcs = many(r.Intn(2), func(int) api.Calc { return api.Calc{Tag: pattern(), Expr: "x% + 1"} })
		}
		var tags names
		var c calcs
		known := map[string]int{}
		for i := range s.Assets {
			s.Assets[i].Template = []string{"t", "u"}[r.Intn(2)]
			for _, x := range s.Templates {
				if x.Key != s.Assets[i].Template {
					continue
				}
				for _, p := range x.Tags {
					tags = append(tags, strings.Join(strings.Split(p, "%"), s.Assets[i].Key))
					known[tags[len(tags)-1]]++
				}
				for _, p := range x.Calcs {
					c = append(c, api.Calc{Tag: strings.Join(strings.Split(p.Tag, "%"), s.Assets[i].Key), Expr: "x" + s.Assets[i].Key + " + 1"})
					known[c[len(c)-1].Tag]++
				}
			}
		}
		want := api.OK
		for _, n := range known {
			if n > 1 {
				want, tags, c = api.ErrTwice, nil, nil
			}
		}
		slices.Sort(tags)
		slices.SortFunc(c, func(x, y api.Calc) int { return strings.Compare(x.Tag, y.Tag) })
		gotTags, e := plant.Tags(s)
		same(t, fmt.Sprint("Tags of ", s), []any{gotTags, e}, []any{tags, want})
		gotCalcs, e := plant.Calcs(s)
		same(t, fmt.Sprint("Calcs of ", s), []any{gotCalcs, e}, []any{c, want})
		results[want]++
	}
	if results[api.OK] < 100 || results[api.ErrTwice] < 100 {
		t.Error(results)
	}
}
