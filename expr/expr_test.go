package expr_test

import (
	"fmt"
	"math/rand"
	"slices"
	"strconv"
	"strings"
	"testing"

	"plantlog/api"
	"plantlog/expr"
)

// same compares as printed, so that an empty and a nil list are the same.
func same(t *testing.T, what string, got, want any) {
	t.Helper()
	if g, w := fmt.Sprintf("%+v", got), fmt.Sprintf("%+v", want); g != w {
		t.Errorf("%s: got %.300s, want %.300s", what, g, w)
	}
}

type (
	samples = []api.Sample
	calcs   = []api.Calc
	names   = []string
)

func good(at, value int) api.Sample { return api.Sample{At: at, Value: value, Quality: api.Good} }

func uncertain(at, value int) api.Sample {
	return api.Sample{At: at, Value: value, Quality: api.Uncertain}
}

func bad(at int) api.Sample { return api.Sample{At: at, Quality: api.Bad} }

func window(from, to int) api.Window { return api.Window{From: from, To: to} }

func one(tag string, l ...api.Sample) []api.Series { return []api.Series{{Tag: tag, Samples: l}} }

// calculated returns calculated tags from a text of TAG: EXPRESSION; TAG: EXPRESSION ...
func calculated(text string) calcs {
	var c calcs
	for part := range strings.SplitSeq(text, ";") {
		tag, s, _ := strings.Cut(part, ":")
		c = append(c, api.Calc{Tag: strings.TrimSpace(tag), Expr: strings.TrimSpace(s)})
	}
	return c
}

// tree is an expression as it is meant; kind is an operator, "neg", a function, "number" or "tag".
type tree struct {
	kind  string
	n     int
	tag   string
	shift int // -1: none
	kids  []tree
}

func operandsOf(kind string) int {
	switch kind {
	case "number", "tag":
		return 0
	case "neg", "abs", "good":
		return 1
	case "if":
		return 3
	}
	return 2
}

// someTree returns a tree over tags with shifts below most.
func someTree(r *rand.Rand, height int, tags []string, most int) tree {
	kinds := strings.Fields("+ - * / < = neg min max abs good if + - * / neg number number tag tag tag tag tag")
	if height == 1 {
		kinds = kinds[len(kinds)-7:]
	}
	x := tree{kind: kinds[r.Intn(len(kinds))], shift: -1}
	switch x.kind {
	case "number":
		x.n = []int{0, 1, 2, 3, 7, 10, 1_000, 999_999, 1_000_000, 999_999_999}[r.Intn(10)]
	case "tag":
		x.tag = tags[r.Intn(len(tags))]
		if r.Intn(3) == 0 {
			x.shift = r.Intn(most)
		}
	}
	for range operandsOf(x.kind) {
		x.kids = append(x.kids, someTree(r, height-1, tags, most))
	}
	return x
}

// full writes a tree with parentheses around each operand, and blanks wherever space puts them.
func (x tree) full(space func() string) string {
	var kids []string
	for _, y := range x.kids {
		kids = append(kids, space()+y.full(space)+space())
	}
	switch {
	case x.kind == "number":
		return strconv.Itoa(x.n)
	case x.kind == "tag" && x.shift >= 0:
		return x.tag + space() + "@" + space() + strconv.Itoa(x.shift)
	case x.kind == "tag":
		return x.tag
	case x.kind == "neg":
		return "-" + space() + "(" + kids[0] + ")"
	case len(x.kind) == 1:
		return "(" + kids[0] + ")" + space() + x.kind + space() + "(" + kids[1] + ")"
	}
	return x.kind + space() + "(" + strings.Join(kids, ",") + ")"
}

// String writes a tree with parentheses around each operand, without blanks.
func (x tree) String() string { return x.full(func() string { return "" }) }

func someSpace(r *rand.Rand) func() string {
	return func() string { return strings.Repeat(" ", max(0, r.Intn(5)-3)) }
}

func (x tree) height() int {
	highest := 0
	for _, y := range x.kids {
		highest = max(highest, y.height())
	}
	return 1 + highest
}

// refs returns the tags of a tree, as often as they are there.
func (x tree) refs() []tree {
	if x.kind == "tag" {
		return []tree{x}
	}
	var list []tree
	for _, y := range x.kids {
		list = append(list, y.refs()...)
	}
	return list
}

func TestP51Format(t *testing.T) {
	for s, want := range map[string]string{
		"a+b*2 - (c)":                "a + b * 2 - c",
		"a":                          "a",
		"  a  ":                      "a",
		"0":                          "0",
		"999999999":                  "999999999",
		"a @ 5":                      "a@5",
		"a@0":                        "a@0",
		"a @86400000":                "a@86400000",
		"a_9b+a_":                    "a_9b + a_",
		"((((a))))":                  "a",
		"(a)@5":                      "",
		"(a-b)-c":                    "a - b - c",
		"a-(b-c)":                    "a - (b - c)",
		"a+(b+c)":                    "a + (b + c)",
		"a+(b-c)":                    "a + (b - c)",
		"(a+b)-c":                    "a + b - c",
		"a-(b*c)":                    "a - b * c",
		"(a-b)*c":                    "(a - b) * c",
		"a*(b-c)":                    "a * (b - c)",
		"(a*b)-(c/d)":                "a * b - c / d",
		"(a*b)/c":                    "a * b / c",
		"a*(b/c)":                    "a * (b / c)",
		"a/(b*c)":                    "a / (b * c)",
		"(a/b)*c":                    "a / b * c",
		"- -a":                       "--a",
		"-(-(-a))":                   "---a",
		"-(a+b)":                     "-(a + b)",
		"-(a*b)":                     "-(a * b)",
		"(-a)*b":                     "-a * b",
		"-a*b":                       "-a * b",
		"a*(-b)":                     "a * -b",
		"a--b":                       "a - -b",
		"a-(-(b))":                   "a - -b",
		"-(5)":                       "-5",
		"-(a@5)":                     "-a@5",
		"-(a<b)":                     "-(a < b)",
		"(a<b)*2":                    "(a < b) * 2",
		"(a<b)<c":                    "(a < b) < c",
		"a<(b<c)":                    "a < (b < c)",
		"(a=b)<(c=d)":                "(a = b) < (c = d)",
		"(a+b)=(c-d)":                "a + b = c - d",
		"a+(b=c)":                    "a + (b = c)",
		"max(a,b@1000)<3":            "max(a, b@1000) < 3",
		"min ( ( a ) , ( b<c ) )":    "min(a, b < c)",
		"abs((a-b))":                 "abs(a - b)",
		"-(abs(a))":                  "-abs(a)",
		"(max(a,b))*(min(c,d))":      "max(a, b) * min(c, d)",
		"good(a=1)":                  "good(a = 1)",
		"if((a=1),(-b),c)":           "if(a = 1, -b, c)",
		"(if(a,b,c))/if(d,e,f)":      "if(a, b, c) / if(d, e, f)",
		"if(if(a,b,c),(d),max(e,f))": "if(if(a, b, c), d, max(e, f))",
		"maxi+ifs+goods":             "maxi + ifs + goods",
	} {
		x, at, e := expr.Format(s)
		if want == "" {
			same(t, s, []any{x, e}, []any{"", api.ErrSyntax})
			continue
		}
		same(t, s, []any{x, at, e}, []any{want, 0, api.OK})
	}
}

func TestP51FormatSize(t *testing.T) {
	sum := func(first string, n int) string { return first + strings.Repeat("+a", n-1) }
	for _, c := range []struct {
		s    string
		long int
		want api.Errno
	}{
		{sum("aaaa", 125), 500, api.OK},
		{sum("aaaaa", 125), 501, api.ErrLarge},
		{sum("aa", 250), 0, api.ErrLarge},
		{"a" + strings.Repeat(" ", api.MaxExpr-1), 1, api.OK},
	} {
		x, at, e := expr.Format(c.s)
		if c.want != api.OK {
			same(t, c.s, []any{x, at, e}, []any{"", 0, c.want})
			continue
		}
		same(t, c.s, []any{len(x), at, e}, []any{c.long, 0, api.OK})
	}
}

// TestP51FormatKeepsTheStructure: what is formatted has the same tree, and without any of its parentheses it has not.
func TestP51FormatKeepsTheStructure(t *testing.T) {
	r := rand.New(rand.NewSource(51))
	tags := strings.Fields("a b c_1 maxx")
	for range 4000 {
		x := someTree(r, 1+r.Intn(4), tags, 30)
		s := x.full(someSpace(r))
		if len(s) > api.MaxExpr {
			continue
		}
		f, at, e := expr.Format(s)
		same(t, s, []any{at, e}, []any{0, api.OK})
		if len(f) > len(x.String())+2*strings.Count(s, ",")+2*strings.Count(s, ")") {
			t.Errorf("%s is formatted to %s", s, f)
		}
		again, _, e := expr.Format(f)
		same(t, s, []any{again, e}, []any{f, api.OK})
		height, _, e := expr.Depth(f)
		same(t, "the height of "+f, []any{height, e}, []any{x.height(), api.OK})
		for _, y := range withoutParentheses(f) {
			if z, _, e := expr.Format(y); e == api.OK && z == f {
				t.Errorf("%s is formatted to %s, but %s is the same", s, f, y)
			}
		}
		series := someSeries(r, tags)
		for at := range 4 {
			got, e := expr.Eval(f, series, 10*at)
			same(t, fmt.Sprint(f, series, at), []any{got, e}, []any{x.at(lookIn(series), 10*at), api.OK})
		}
	}
}

// withoutParentheses returns a string without any one of its pairs of parentheses that do not follow a function.
func withoutParentheses(s string) []string {
	var list []string
	var open []int
	for i := range len(s) {
		switch s[i] {
		case '(':
			open = append(open, i)
		case ')':
			from := open[len(open)-1]
			open = open[:len(open)-1]
			if from == 0 || s[from-1] < 'a' || s[from-1] > 'z' {
				list = append(list, s[:from]+s[from+1:i]+s[i+1:])
			}
		}
	}
	return list
}

func TestP51Tags(t *testing.T) {
	for s, want := range map[string]names{
		"b + a * min(b, 3)":       {"a", "b"},
		"3":                       nil,
		"a@5 + a + a@7":           {"a"},
		"if(c, b, a)":             {"a", "b", "c"},
		"good(good1)":             {"good1"},
		"b_ + b0 + b + ba":        {"b", "b0", "b_", "ba"},
		"max(-(abs(z)), y@0) = x": {"x", "y", "z"},
	} {
		got, at, e := expr.Tags(s)
		same(t, s, []any{got, at, e}, []any{want, 0, api.OK})
	}
}

func TestP51Depth(t *testing.T) {
	for s, want := range map[string]int{
		"1": 1, "a": 1, "a@5": 1, "((a))": 1, "-a": 2, "--a": 3, "-(-(a))": 3,
		"a+b": 2, "a+b+c": 3, "a+(b+c)": 3, "(a+b)+(c+d)": 3, "a+b+c+d": 4,
		"(a + 1) * 2": 3, "a + 1 * 2": 3, "a<b+c*-d": 5,
		"abs(a)": 2, "good((a))": 2, "min(a,b)": 2, "max(a,-b)": 3, "if(a,b,c)": 2, "if(a,b,c+d)": 3, "if(a<b,-(-c),d)": 4,
	} {
		got, at, e := expr.Depth(s)
		same(t, s, []any{got, at, e}, []any{want, 0, api.OK})
	}
	got, _, e := expr.Depth(strings.Repeat("a+", 249) + "a")
	same(t, "a long sum", []any{got, e}, []any{250, api.OK})
}

func TestP51TagsAndDepthAsTheDocumentSays(t *testing.T) {
	r := rand.New(rand.NewSource(52))
	for range 2000 {
		x := someTree(r, 1+r.Intn(4), strings.Fields("a b c d e f"), 30)
		s := x.full(someSpace(r))
		if len(s) > api.MaxExpr {
			continue
		}
		var want names
		for _, y := range x.refs() {
			want = append(want, y.tag)
		}
		slices.Sort(want)
		tags, at, e := expr.Tags(s)
		same(t, s, []any{tags, at, e}, []any{slices.Compact(want), 0, api.OK})
		height, at, e := expr.Depth(s)
		same(t, s, []any{height, at, e}, []any{x.height(), 0, api.OK})
	}
}
