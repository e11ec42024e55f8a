package expr_test

import (
	"fmt"
	"math"
	"math/big"
	"math/rand"
	"slices"
	"strings"
	"testing"

	"plantlog/api"
	"plantlog/expr"
)

// someSeries returns series of some of the tags, with values of all sizes.
func someSeries(r *rand.Rand, tags []string) []api.Series {
	var list []api.Series
	for _, tag := range slices.Sorted(slices.Values(tags)) {
		if r.Intn(6) == 0 {
			continue
		}
		var l samples
		for at := r.Intn(12); at < 40; at += 1 + r.Intn(9) {
			x := api.Sample{At: at, Quality: r.Intn(6) % 3}
			if x.Quality != api.Bad {
				x.Value = []int{r.Intn(7) - 3, r.Intn(7) - 3, r.Intn(2*api.MaxValue+1) - api.MaxValue, api.MaxValue, -api.MaxValue}[r.Intn(5)]
			}
			l = append(l, x)
		}
		list = append(list, api.Series{Tag: tag, Samples: l})
	}
	return list
}

// exact is a value as the document defines it.
type exact struct {
	n       *big.Int
	quality int
}

func known(n, quality int) exact { return exact{big.NewInt(int64(n)), quality} }

// bounded returns the value, or Bad if it is one or is greater than a limit.
func (v exact) bounded(most int64) exact {
	if v.quality == api.Bad || v.n.CmpAbs(big.NewInt(most)) > 0 {
		return known(0, api.Bad)
	}
	return v
}

// lookIn returns a function that returns the value of a tag at a moment.
func lookIn(series []api.Series) func(tag string, at int) exact {
	return func(tag string, at int) exact {
		v := known(0, api.Bad)
		for _, x := range series {
			for _, y := range x.Samples {
				if x.Tag == tag && y.At <= at {
					v = known(y.Value, y.Quality)
				}
			}
		}
		return v
	}
}

// at returns what the document says of the value of a tree at a moment.
func (x tree) at(look func(tag string, at int) exact, at int) api.Sample {
	v := x.value(look, at).bounded(api.MaxValue)
	return api.Sample{At: at, Value: int(v.n.Int64()), Quality: v.quality}
}

func (x tree) value(look func(tag string, at int) exact, at int) exact {
	var kids []exact
	worst := api.Good
	for _, y := range x.kids {
		v := y.value(look, at)
		kids = append(kids, v)
		worst = max(worst, v.quality)
	}
	switch x.kind {
	case "number":
		return known(x.n, api.Good)
	case "tag":
		return look(x.tag, at-max(x.shift, 0))
	case "good":
		if kids[0].quality == api.Good {
			return known(1, api.Good)
		}
		return known(0, api.Good)
	case "if":
		v := kids[1]
		if kids[0].n.Sign() == 0 {
			v = kids[2]
		}
		return exact{v.n, max(v.quality, kids[0].quality)}.bounded(api.MaxResult)
	}
	n, ok := computed(x.kind, kids)
	if !ok {
		return known(0, api.Bad)
	}
	return exact{n, worst}.bounded(api.MaxResult)
}

// computed returns the result of arithmetic, if there is one.
func computed(kind string, kids []exact) (*big.Int, bool) {
	n, a := new(big.Int), kids[0].n
	b := kids[len(kids)-1].n
	truth := func(ok bool) *big.Int {
		if ok {
			return n.SetInt64(1)
		}
		return n
	}
	switch kind {
	case "neg":
		return n.Neg(a), true
	case "abs":
		return n.Abs(a), true
	case "+":
		return n.Add(a, b), true
	case "-":
		return n.Sub(a, b), true
	case "*":
		return n.Mul(a, b), true
	case "/":
		if b.Sign() == 0 {
			return nil, false
		}
		return n.Quo(a, b), true
	case "<":
		return truth(a.Cmp(b) < 0), true
	case "=":
		return truth(a.Cmp(b) == 0), true
	case "min":
		if a.Cmp(b) < 0 {
			return a, true
		}
		return b, true
	}
	if a.Cmp(b) > 0 {
		return a, true
	}
	return b, true
}

func TestP52Tags(t *testing.T) {
	series := []api.Series{
		{Tag: "a", Samples: samples{good(10, 7), uncertain(50, 9), bad(60), good(api.End-1, 5)}},
		{Tag: "b"},
	}
	for _, c := range []struct {
		s    string
		at   int
		want api.Sample
	}{
		{"a", 0, bad(0)},
		{"a", 9, bad(9)},
		{"a", 10, good(10, 7)},
		{"a", 11, good(11, 7)},
		{"a", 49, good(49, 7)},
		{"a", 50, uncertain(50, 9)},
		{"a", 59, uncertain(59, 9)},
		{"a", 60, bad(60)},
		{"a", api.End - 2, bad(api.End - 2)},
		{"a", api.End - 1, good(api.End-1, 5)},
		{"a@0", 10, good(10, 7)},
		{"a@1", 10, bad(10)},
		{"a@1", 11, good(11, 7)},
		{"a@40", 89, good(89, 7)},
		{"a@40", 90, uncertain(90, 9)},
		{"a@10", 9, bad(9)},
		{"a@10", 10, bad(10)},
		{"a@86400000", 86_400_009, bad(86_400_009)},
		{"a@86400000", 86_400_010, good(86_400_010, 7)},
		{"a + a@45", 55, uncertain(55, 16)},
		{"b", 20, bad(20)},
		{"c", 20, bad(20)},
	} {
		x, e := expr.Eval(c.s, series, c.at)
		same(t, fmt.Sprint(c.s, " at ", c.at), []any{x, e}, []any{c.want, api.OK})
	}
	x, e := expr.Eval("a@5", one("a", good(0, 3)), 4)
	same(t, "below 0", []any{x, e}, []any{bad(4), api.OK})
	x, e = expr.Eval("a@4", one("a", good(0, 3)), 4)
	same(t, "at 0", []any{x, e}, []any{good(4, 3), api.OK})
}

func TestP52Arithmetic(t *testing.T) {
	for s, want := range map[string]int{
		"1+2": 3, "1-2": -1, "2*3": 6, "2-3-4": -5, "2-(3-4)": 3, "2+3*4": 14, "(2+3)*4": 20, "-2*3": -6, "--2": 2, "-0": 0,
		"7/2": 3, "7/-2": -3, "-7/2": -3, "-7/-2": 3, "1/2": 0, "-1/2": 0, "0/5": 0, "12/3/2": 2, "12/(3/2)": 12,
		"1<2": 1, "2<2": 0, "3<2": 0, "-3<-2": 1, "1=1": 1, "1=2": 0, "(1<2)=1": 1, "1+1=2": 1, "1<2*3": 1,
		"min(1,2)": 1, "min(2,1)": 1, "max(1,2)": 2, "max(2,1)": 2, "max(-2,-1)": -1, "min(3,3)": 3, "abs(-5)": 5, "abs(5)": 5, "abs(0)": 0,
		"good(1)": 1, "good(1/0)": 0, "good(good(1/0))": 1, "if(1,2,3)": 2, "if(0,2,3)": 3, "if(-1,2,3)": 2, "if(1,2,1/0)": 2, "if(0,1/0,3)": 3, "if(1<2,4,5)": 4,
		"1000000": 1_000_000, "-1000000": -1_000_000, "1000001-1": 1_000_000,
		"999999999/1000": 999_999, "999999999*1000/1000000": 999_999, "1000000*1000000/1000000": 1_000_000, "-1000000*1000000/1000000": -1_000_000,
		"good(1000000*1000000)": 1, "good(1000000*1000000+0)": 1, "good(1000000*1000000+1)": 0, "good(-1000000*1000000-1)": 0, "good(1000001*1000000)": 0, "good(-1000001*1000000)": 0,
		"good(1000000*-1000001)": 0, "good(-1000000*-1000001)": 0, "good(1000000*-1000000)": 1, "good(0*(1000000*1000000))": 1,
		"good(2000000)": 1, "2000000<3000000": 1,
		"1000000*1000000-1000000*1000000": 0, "1000000*1000000=1000000*1000000": 1, "if(1000000*1000000,1,2)": 1,
		"good(1000000*1000000*(1000000*1000000))": 0, "good(500000*1000000*3)": 0,
	} {
		n, ok, e := expr.Constant(s)
		same(t, s, []any{n, ok, e}, []any{want, true, api.OK})
		x, e := expr.Eval(s, nil, 5)
		same(t, s, []any{x, e}, []any{good(5, want), api.OK})
	}
}

// TestP52Bad: what is Bad without tags.
func TestP52Bad(t *testing.T) {
	for _, s := range []string{
		"1/0", "0/0", "1/(2-2)", "-(1/0)", "abs(1/0)", "1/0+1", "1+1/0", "0*(1/0)", "1/0<1", "1/0=0", "min(1,1/0)", "max(1/0,1)", "if(1/0,1,2)", "if(1,1/0,2)", "if(0,1,1/0)",
		"1000001", "-1000001", "1000000+1", "2000000-1", "999999999", "if(1,1000001,0)", "max(1000001,0)", "abs(-1000001)", "1000*1001",
		"1000001*1000000/1000000", "(1000000*1000000+1)-1000000*1000000", "0*(1000001*1000000)", "65536*65536*(65536*65536)", "-(65536*65536)*(65536*65536)", "65536*65536*-(65536*65536)", "-(65536*65536)*-(65536*65536)", "(999999999*999999999)/999999999", "999999999*999999999*999999999*0", "min(0,999999999*999999999)",
	} {
		n, ok, e := expr.Constant(s)
		same(t, s, []any{n, ok, e}, []any{0, false, api.OK})
		x, e := expr.Eval(s, nil, 5)
		same(t, s, []any{x, e}, []any{bad(5), api.OK})
	}
}

func TestP52Qualities(t *testing.T) {
	series := []api.Series{{Tag: "b", Samples: samples{bad(0)}}, {Tag: "g", Samples: samples{good(0, 7)}}, {Tag: "h", Samples: samples{good(0, 0)}}, {Tag: "u", Samples: samples{uncertain(0, 4)}}, {Tag: "v", Samples: samples{uncertain(0, 0)}}}
	for s, want := range map[string]api.Sample{
		"g+1": good(9, 8), "u+1": uncertain(9, 5), "1+u": uncertain(9, 5), "b+1": bad(9), "1+b": bad(9), "u+b": bad(9), "g*u": uncertain(9, 28), "h*b": bad(9), "h*u": uncertain(9, 0),
		"g<u": uncertain(9, 0), "u<g": uncertain(9, 1), "u=4": uncertain(9, 1), "b=0": bad(9), "b<1": bad(9), "0<b": bad(9),
		"-u": uncertain(9, -4), "-b": bad(9), "abs(-u)": uncertain(9, 4), "abs(b)": bad(9),
		"min(g,u)": uncertain(9, 4), "min(u,g)": uncertain(9, 4), "max(g,u)": uncertain(9, 7), "max(g,b)": bad(9), "min(b,g)": bad(9),
		"good(g)": good(9, 1), "good(u)": good(9, 0), "good(b)": good(9, 0), "good(g+u)": good(9, 0), "good(nothing)": good(9, 0), "good(h)": good(9, 1),
		"if(1,g,b)": good(9, 7), "if(0,b,g)": good(9, 7), "if(1,b,g)": bad(9), "if(0,g,b)": bad(9), "if(1,u,g)": uncertain(9, 4), "if(0,u,g)": good(9, 7),
		"if(u,g,b)": uncertain(9, 7), "if(v,b,g)": uncertain(9, 7), "if(u,u,g)": uncertain(9, 4), "if(b,g,g)": bad(9), "if(h,b,u)": uncertain(9, 4), "if(g,1,b)": good(9, 1), "if(nothing,1,2)": bad(9),
		"u/0": bad(9), "g/h": bad(9), "u*1000000": bad(9), "u*1000000/1000000": uncertain(9, 4),
	} {
		x, e := expr.Eval(s, series, 9)
		same(t, s, []any{x, e}, []any{want, api.OK})
	}
}

func TestP52EvalAsTheDocumentSays(t *testing.T) {
	r := rand.New(rand.NewSource(54))
	tags := strings.Fields("a b c d")
	kinds := [3]int{}
	for range 6000 {
		x, series, at := someTree(r, 1+r.Intn(5), tags, 20), someSeries(r, tags), r.Intn(50)
		s := x.full(someSpace(r))
		if len(s) > api.MaxExpr {
			continue
		}
		want := x.at(lookIn(series), at)
		got, e := expr.Eval(s, series, at)
		same(t, fmt.Sprint(s, series, at), []any{got, e}, []any{want, api.OK})
		kinds[want.Quality]++
		n, ok, e := expr.Constant(s)
		constant := len(x.refs()) == 0 && want.Quality == api.Good
		if !constant {
			want.Value = 0
		}
		same(t, s, []any{n, ok, e}, []any{want.Value, constant, api.OK})
	}
	if slices.Min(kinds[:]) < 300 {
		t.Errorf("qualities: %v", kinds)
	}
}

func TestP52Constant(t *testing.T) {
	for s, want := range map[string]string{
		"7 / -2":                "-3 true",
		"a":                     "0 false",
		"a*0":                   "0 false",
		"good(a)":               "0 false",
		"if(1,2,a)":             "0 false",
		"7/0":                   "0 false",
		"1000001":               "0 false",
		"-1000000":              "-1000000 true",
		"0":                     "0 true",
		"if(1/0=0,1,2)":         "0 false",
		"if(good(1/0)=0,11,12)": "11 true",
	} {
		n, ok, e := expr.Constant(s)
		same(t, s, []any{fmt.Sprint(n, ok), e}, []any{want, api.OK})
	}
}

// seriesErrors are series with what is wrong with them; each has a wrong moment behind the first error.
func seriesErrors() map[string]struct {
	series []api.Series
	want   api.Errno
} {
	type c = struct {
		series []api.Series
		want   api.Errno
	}
	tagged := func(tags ...string) []api.Series {
		var list []api.Series
		for _, tag := range tags {
			list = append(list, api.Series{Tag: tag})
		}
		return list
	}
	behind := api.Series{Tag: "", Samples: samples{good(-1, 0)}}
	return map[string]c{
		"too many":                {make([]api.Series, api.MaxTags+1), api.ErrLarge},
		"no name":                 {tagged("a", ""), api.ErrName},
		"no key":                  {tagged("a", "B"), api.ErrName},
		"twice":                   {append(tagged("a", "a"), behind), api.ErrOrder},
		"out of order":            {append(tagged("b", "a"), behind), api.ErrOrder},
		"too many samples":        {one("a", make(samples, api.MaxSamples+1)...), api.ErrLarge},
		"no moment":               {one("a", good(api.End, 0)), api.ErrArg},
		"no quality":              {one("a", api.Sample{Quality: 3}), api.ErrKind},
		"no value":                {one("a", good(0, api.MaxValue+1)), api.ErrArg},
		"bad with a value":        {one("a", api.Sample{Value: 1, Quality: api.Bad}), api.ErrForm},
		"samples out of order":    {append(one("a", good(5, 0), good(5, 0)), behind), api.ErrOrder},
		"name before order":       {tagged("b", ""), api.ErrName},
		"order before samples":    {append(tagged("b"), one("a", good(-1, 0))...), api.ErrOrder},
		"samples before the next": {append(one("b", api.Sample{Quality: 3}), tagged("a")...), api.ErrKind},
	}
}

func TestP52Errors(t *testing.T) {
	for name, c := range seriesErrors() {
		for _, at := range []int{0, -1} {
			x, e := expr.Eval("a", c.series, at)
			same(t, name, []any{x, e}, []any{api.Sample{}, c.want})
		}
		_, e := expr.Eval("a b", c.series, 0)
		same(t, name+", but no expression", e, api.ErrSyntax)
	}
	var most []api.Series
	for i := range api.MaxTags {
		most = append(most, api.Series{Tag: fmt.Sprintf("a%03d", i), Samples: samples{good(0, i)}})
	}
	x, e := expr.Eval("a000 + a199", most, 5)
	same(t, "as many series as can be", []any{x, e}, []any{good(5, 199), api.OK})
	for at, want := range map[int]api.Errno{0: api.OK, api.End - 1: api.OK, -1: api.ErrArg, api.End: api.ErrArg, math.MinInt: api.ErrArg, math.MaxInt: api.ErrArg} {
		x, e := expr.Eval("3", one("key-with-minus", good(5, 5)), at)
		same(t, fmt.Sprint("at ", at), e, want)
		if e != api.OK {
			same(t, fmt.Sprint("at ", at), x, api.Sample{})
		}
	}
}
