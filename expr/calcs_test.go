package expr_test

import (
	"fmt"
	"math/rand"
	"slices"
	"strings"
	"testing"

	"plantlog/api"
	"plantlog/expr"
)

// manyCalcs returns calculated tags x000, x001 ...
func manyCalcs(n int, text func(i int) string) calcs {
	var c calcs
	for i := range n {
		c = append(c, api.Calc{Tag: fmt.Sprintf("x%03d", i), Expr: text(i)})
	}
	return c
}

// calcErrors are calculated tags with what is wrong with them.
func calcErrors() map[string]struct {
	c    calcs
	want api.Errno
} {
	type c = struct {
		c    calcs
		want api.Errno
	}
	name := strings.Repeat("n", api.MaxName)
	return map[string]c{
		"too many":                     {make(calcs, api.MaxCalcs+1), api.ErrLarge},
		"no name":                      {calculated(":1"), api.ErrName},
		"no key":                       {calculated("a:1; B:1"), api.ErrName},
		"begins with a digit":          {calculated("1a:1"), api.ErrName},
		"a name that is too long":      {calculated(name + "n:1"), api.ErrName},
		"a key that is no name":        {calculated("a-b:1"), api.ErrName},
		"min":                          {calculated("min:1"), api.ErrName},
		"max":                          {calculated("max:1"), api.ErrName},
		"abs":                          {calculated("abs:1"), api.ErrName},
		"good":                         {calculated("good:1"), api.ErrName},
		"if":                           {calculated("if:1"), api.ErrName},
		"twice":                        {calculated("a:1; a:1"), api.ErrOrder},
		"out of order":                 {calculated("b:1; a:1"), api.ErrOrder},
		"no expression":                {calculated("a:"), api.ErrSyntax},
		"an expression that is long":   {calcs{{Tag: "a", Expr: strings.Repeat("$", api.MaxExpr+1)}}, api.ErrLarge},
		"an expression that is deep":   {calculated("a:" + strings.Repeat("-", 21) + "b"), api.ErrLarge},
		"name before order":            {calculated("b:1; a-:$"), api.ErrName},
		"order before the expression":  {calculated("b:1; a:$"), api.ErrOrder},
		"the expression before others": {calculated("b:$; a-:1; a:1"), api.ErrSyntax},
		"the name before others":       {calculated("b:1; if:1; a:$"), api.ErrName},
	}
}

// withCalcs returns what each function with calculated tags returns as error, and that all else is zero then.
func withCalcs(t *testing.T, what string, c calcs, tag string, series []api.Series, w api.Window) []api.Errno {
	t.Helper()
	order, e1 := expr.Order(c)
	cycle, e2 := expr.Cycle(c)
	affected, e3 := expr.Affects(c, tag)
	values, e4 := expr.Values(c, series, w.From)
	run, e5 := expr.Run(c, series, tag, w)
	list := []api.Errno{expr.CheckCalcs(c), e1, e2, e3, e4, e5}
	for i, x := range []any{"[]", order, cycle, affected, values, run} {
		if list[i] != api.OK {
			same(t, what, x, "[]")
		}
	}
	return list
}

func TestP53CheckCalcs(t *testing.T) {
	wrong := one("B", good(-1, 0))
	for what, c := range calcErrors() {
		same(t, what, withCalcs(t, what, c.c, "a-b", wrong, window(5, 4)), slices.Repeat([]api.Errno{c.want}, 6))
		same(t, what, withCalcs(t, what, c.c, "no tag", nil, window(-1, 4)), slices.Repeat([]api.Errno{c.want}, 6))
	}
	for what, c := range map[string]calcs{
		"none":             nil,
		"the longest name": calculated(strings.Repeat("n", api.MaxName) + ":1"),
		"all characters":   calculated("a:1; a0:2; a_:3; aa:4"),
		"like a function":  calculated("absa:1; i:1; iff:1; mi:1"),
		"a cycle":          calculated("a:b; b:a"),
		"as many as can":   manyCalcs(api.MaxCalcs, func(int) string { return "a" }),
	} {
		same(t, what, expr.CheckCalcs(c), api.OK)
	}
}

func TestP53Order(t *testing.T) {
	for text, want := range map[string]string{
		"x: y + 1; y: a * 2; z: x@10":                 "y x z",
		"a: 1; b: 2; c: 3":                            "a b c",
		"a: c; b: c; c: x":                            "c a b",
		"a: d; b: 1; c: 1; d: c":                      "b c d a",
		"a: b@5; b: c@6; c: 7":                        "c b a",
		"a: good(d); b: 1; c: if(1,1,b); d: min(b,c)": "b c d a",
		"a: c - e; b: 2; c: d; d: 1; e: 2":            "b d c e a",
		"b: a_; a__: 1":                               "",
		"a_: 1; b: a_ + a_@1 + x":                     "a_ b",
		"x: x1; x1: 2":                                "x1 x",
	} {
		o, e := expr.Order(calculated(text))
		if want == "" {
			same(t, text, []any{o, e}, []any{"[]", api.ErrOrder})
			continue
		}
		same(t, text, []any{o, e}, []any{strings.Fields(want), api.OK})
	}
	o, e := expr.Order(nil)
	same(t, "none", []any{o, e}, []any{"[]", api.OK})
	for _, text := range []string{"a: a", "a: a@5", "a: if(1,2,a)", "a: b; b: a", "a: 1; b: c; c: d@1; d: b; e: 5", "a: b; b: b"} {
		o, e := expr.Order(calculated(text))
		same(t, text, []any{o, e}, []any{"[]", api.ErrLoop})
		v, e := expr.Values(calculated(text), one("B", good(-1, 0)), -1)
		same(t, text, []any{v, e}, []any{"[]", api.ErrLoop})
	}
}

func TestP53Cycle(t *testing.T) {
	for text, want := range map[string]string{
		"x: y + 1; y: z; z: x@10":                "x y z",
		"a: 1; b: a; c: a + b":                   "",
		"a: a":                                   "a",
		"a: b; b: b@3":                           "b",
		"a: b; b: a; c: c":                       "c",
		"a: b; b: a; c: c; d: d":                 "c",
		"a: b; b: a":                             "a b",
		"b: c; c: b":                             "b c",
		"a: c; b: a; c: b":                       "a c b",
		"a: b + c; b: d; c: d; d: a":             "a b d",
		"a: c + d; b: a; c: b; d: b":             "a c b",
		"a: d + b; b: e; c: 1; d: c + a; e: a":   "a d",
		"a: b; b: c; c: a; d: e; e: f; f: d":     "a b c",
		"a: b; b: c; c: d; d: a; e: f; f: e":     "e f",
		"a: b + e; b: c; c: d; d: a; e: f; f: c": "a b c d",
		"a: c; b: d; c: d; d: a + e; e: b":       "a c d",
		"a: b; b: c; c: b + a":                   "b c",
		"p: q; q: r; r: q; s: t; t: s":           "q r",
		"a: x + y; x: 1; y: if(0, a, 1)":         "a y",
		"a: b + if(1, 2, good(c)); b: 3; c: abs(d@86400000); d: -a": "a c d",
	} {
		k, e := expr.Cycle(calculated(text))
		same(t, text, []any{k, e}, []any{strings.Fields(want), api.OK})
	}
	k, e := expr.Cycle(nil)
	same(t, "none", []any{k, e}, []any{"[]", api.OK})
	ring := manyCalcs(api.MaxCalcs, func(i int) string { return fmt.Sprintf("x%03d", (i+37)%api.MaxCalcs) })
	k, e = expr.Cycle(ring)
	same(t, "a ring", []any{len(k), k[:3], e}, []any{api.MaxCalcs, names{"x000", "x037", "x074"}, api.OK})
}

func TestP53Affects(t *testing.T) {
	c := calculated("x: y + 1; y: a * 2; z: x@10; zz: b + if(0, z, 1)")
	for tag, want := range map[string]string{"a": "x y z zz", "b": "zz", "x": "z zz", "y": "x z zz", "z": "zz", "zz": "", "c": "", "a-b": "", "if": ""} {
		l, e := expr.Affects(c, tag)
		same(t, tag, []any{l, e}, []any{strings.Fields(want), api.OK})
	}
	for tag, want := range map[string]string{"a": "a b c", "b": "a b c", "c": "", "d": "a b c"} {
		l, e := expr.Affects(calculated("a: b; b: a + d; c: b"), tag)
		same(t, "in a cycle, "+tag, []any{l, e}, []any{strings.Fields(want), api.OK})
	}
	for _, tag := range []string{"", "A", "1", "a b", "a@5", strings.Repeat("a", api.MaxName+1)} {
		l, e := expr.Affects(c, tag)
		same(t, tag, []any{l, e}, []any{"[]", api.ErrName})
		l, e = expr.Affects(nil, tag)
		same(t, tag, []any{l, e}, []any{"[]", api.ErrName})
	}
}

// someGraph returns calculated tags a, b ... with which ones are in the expression of which.
func someGraph(r *rand.Rand, n, most int) (calcs, map[string]map[string]bool) {
	var c calcs
	inputs := map[string]map[string]bool{}
	for i := range n {
		tag := string(rune('a' + i))
		inputs[tag] = map[string]bool{}
		var parts names
		for range r.Intn(most + 1) {
			input := string(rune('a' + r.Intn(n+1)))
			inputs[tag][input] = true
			parts = append(parts, []string{input, input + "@5", "good(" + input + ")"}[r.Intn(3)])
		}
		c = append(c, api.Calc{Tag: tag, Expr: strings.Join(append(parts, "1"), "+")})
	}
	return c, inputs
}

// paths calls see for all lists of different names that begin with a prefix.
func paths(prefix, all names, see func(path names)) {
	see(prefix)
	for _, x := range all {
		if !slices.Contains(prefix, x) {
			paths(append(slices.Clone(prefix), x), all, see)
		}
	}
}

func tagsOf(c calcs) names {
	var all names
	for _, x := range c {
		all = append(all, x.Tag)
	}
	return all
}

// TestP53OrderAndCycleAsTheDocumentSays looks at all lists of tags, which come in the order of their names.
func TestP53OrderAndCycleAsTheDocumentSays(t *testing.T) {
	r := rand.New(rand.NewSource(55))
	loops := 0
	for range 1500 {
		c, inputs := someGraph(r, 1+r.Intn(5), 3)
		all := tagsOf(c)
		var order, cycle names
		paths(nil, all, func(path names) {
			if len(path) == len(all) && order == nil && inOrder(path, all, inputs) {
				order = path
			}
			if isCycle(path, inputs) && (cycle == nil || len(path) < len(cycle)) {
				cycle = path
			}
		})
		got, e := expr.Cycle(c)
		same(t, fmt.Sprint(c), []any{got, e}, []any{cycle, api.OK})
		want := api.OK
		if cycle != nil {
			want = api.ErrLoop
			loops++
		}
		got, e = expr.Order(c)
		same(t, fmt.Sprint(c), []any{got, e}, []any{order, want})
	}
	if loops < 200 || loops > 1300 {
		t.Errorf("%d have cycles", loops)
	}
}

// inOrder reports whether each tag comes after those of its expression.
func inOrder(path, all names, inputs map[string]map[string]bool) bool {
	for i, x := range path {
		for _, y := range all {
			if inputs[x][y] && !slices.Contains(path[:i], y) {
				return false
			}
		}
	}
	return true
}

// isCycle reports whether each tag has the next one in its expression, the last one the first one, and this is the least one.
func isCycle(path names, inputs map[string]map[string]bool) bool {
	for i, x := range path {
		if !inputs[x][path[(i+1)%len(path)]] || x < path[0] {
			return false
		}
	}
	return len(path) > 0
}

func TestP53AffectsAsTheDocumentSays(t *testing.T) {
	r := rand.New(rand.NewSource(56))
	for range 1000 {
		c, inputs := someGraph(r, 1+r.Intn(8), 2)
		all := tagsOf(c)
		depends := func(x, y string) bool { return inputs[x][y] }
		for range all {
			before := depends
			depends = func(x, y string) bool {
				return before(x, y) || slices.ContainsFunc(all, func(z string) bool { return inputs[x][z] && before(z, y) })
			}
			depends = inTable(all, depends)
		}
		for tag := 'a'; tag <= 'i'; tag++ {
			var want names
			for _, x := range all {
				if depends(x, string(tag)) {
					want = append(want, x)
				}
			}
			got, e := expr.Affects(c, string(tag))
			same(t, fmt.Sprint(c, string(tag)), []any{got, e}, []any{want, api.OK})
		}
	}
}

// inTable returns the same function with its results for all tags computed once.
func inTable(all names, f func(x, y string) bool) func(x, y string) bool {
	table := map[string]bool{}
	for _, x := range all {
		for y := 'a'; y <= 'i'; y++ {
			table[x+string(y)] = f(x, string(y))
		}
	}
	return func(x, y string) bool { return table[x+y] }
}
