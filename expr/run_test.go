package expr_test

import (
	"fmt"
	"math"
	"math/rand"
	"slices"
	"strings"
	"testing"

	"plantlog/api"
	"plantlog/expr"
)

func plain() []api.Series {
	return []api.Series{{Tag: "a", Samples: samples{good(10, 7), uncertain(50, 9)}}, {Tag: "b", Samples: samples{bad(10)}}}
}

func TestP53Values(t *testing.T) {
	for text, want := range map[string]string{
		"x: y + 1; y: a * 2; z: x@10":            "x=15 good y=14 good z=15 good",
		"x: b":                                   "x=0 bad",
		"x: -a":                                  "x=-7 good",
		"x: a@10; y: a@11; z: y@0":               "x=7 good y=0 bad z=0 bad",
		"x: 5; y: x@20; z: x@21":                 "x=5 good y=5 good z=0 bad",
		"x: good(a); y: x@10; z: x@11; zz: x@21": "x=1 good y=1 good z=0 good zz=0 bad",
		"x: good(nothing); y: x@20; z: if(x@21,1,1)": "x=0 good y=0 good z=0 bad",
		"x: 999999 + 1; y: x + 1; z: y - 1":          "x=1000000 good y=0 bad z=0 bad",
		"x: 2000000; y: x - 1999999; z: good(x)":     "x=0 bad y=0 bad z=0 good",
		"x: 1; y: x@5 + x@5@3":                       "",
		"x: 1; y: x@5; z: y@15; zz: y@16":            "x=1 good y=1 good z=1 good zz=0 bad",
	} {
		v, e := expr.Values(calculated(text), plain(), 20)
		if want == "" {
			same(t, text, []any{v, e}, []any{"[]", api.ErrSyntax})
			continue
		}
		var got names
		for _, x := range v {
			got = append(got, x.Name+"="+x.Value)
		}
		same(t, text, []any{strings.Join(got, " "), e}, []any{want, api.OK})
	}
	v, e := expr.Values(calculated("x: a; y: x@10 + 1"), plain(), 60)
	same(t, "uncertain", []any{v, e}, []any{[]api.Pair{{Name: "x", Value: "9 uncertain"}, {Name: "y", Value: "10 uncertain"}}, api.OK})
	v, e = expr.Values(nil, plain(), 60)
	same(t, "none", []any{v, e}, []any{"[]", api.OK})
}

// TestP53SeriesOfCalculatedTags: they are not used, but must be valid.
func TestP53SeriesOfCalculatedTags(t *testing.T) {
	c := calculated("a: 5; x: a + a@1")
	v, e := expr.Values(c, plain(), 20)
	same(t, "Values", []any{v, e}, []any{[]api.Pair{{Name: "a", Value: "5 good"}, {Name: "x", Value: "10 good"}}, api.OK})
	l, e := expr.Run(c, plain(), "x", window(5, 100))
	same(t, "Run", []any{l, e}, []any{samples{good(5, 10)}, api.OK})
	_, e = expr.Values(c, one("a", good(0, api.MaxValue+1)), 20)
	same(t, "a series that is none", e, api.ErrArg)
}

// shiftedTags returns calculated tags of which z needs 1 + rows + rows * columns shifted tags: itself, y and x.
func shiftedTags(rows, columns, others int) calcs {
	sum := func(tag string, n, step int) string {
		var parts names
		for i := range n {
			parts = append(parts, fmt.Sprintf("%s@%d", tag, i*step))
		}
		return strings.Join(parts, "+")
	}
	c := calcs{{Tag: "x", Expr: "1 + a@5 + a"}, {Tag: "y", Expr: sum("x", columns, rows)}, {Tag: "z", Expr: sum("y", rows, 1)}}
	for i := range others {
		tag := fmt.Sprintf("m%02d", i)
		c = append(c, api.Calc{Tag: tag, Expr: "1"})
		c[2].Expr += "+" + tag
	}
	slices.SortFunc(c, func(x, y api.Calc) int { return strings.Compare(x.Tag, y.Tag) })
	return c
}

func TestP53P54ShiftedTags(t *testing.T) {
	all := window(0, api.End)
	for _, c := range []struct {
		rows, columns, others int
		want                  api.Errno
	}{
		{30, 32, 9, api.OK}, {30, 32, 10, api.ErrFull}, {27, 36, 0, api.OK}, {27, 36, 1, api.ErrFull}, {40, 40, 0, api.ErrFull}, {1, 1, 20, api.OK},
	} {
		what := fmt.Sprint(c)
		list := shiftedTags(c.rows, c.columns, c.others)
		v, e := expr.Values(list, plain(), 9_000)
		same(t, what, e, c.want)
		l, e := expr.Run(list, plain(), "z", all)
		same(t, what, e, c.want)
		if c.want == api.OK {
			same(t, what, v[len(v)-1], api.Pair{Name: "z", Value: fmt.Sprint(c.rows*c.columns*19+c.others, " uncertain")})
			same(t, what, l[len(l)-1].Value, c.rows*c.columns*19+c.others)
			continue
		}
		same(t, what, []any{v, l}, []any{"[]", "[]"})
		_, e = expr.Run(list, plain(), "y", all)
		same(t, what+": only what is asked for", e, api.OK)
	}
	list := append(shiftedTags(30, 32, 9), api.Calc{Tag: "zz", Expr: "z"}, api.Calc{Tag: "zzz", Expr: "1"})
	for tag, want := range map[string]api.Errno{"z": api.OK, "zz": api.ErrFull, "zzz": api.OK} {
		_, e := expr.Run(list, plain(), tag, all)
		same(t, tag, e, want)
	}
	_, e := expr.Values(list, plain(), 0)
	same(t, "all, also those below 0", e, api.ErrFull)
	same(t, "CheckCalcs", expr.CheckCalcs(list), api.OK)
}

// TestP53ManyWays: there are more ways to a tag than could ever be gone.
func TestP53ManyWays(t *testing.T) {
	c := manyCalcs(api.MaxCalcs, func(i int) string {
		if i == 0 {
			return "a"
		}
		return fmt.Sprintf("max(x%03d, x%03d)", i-1, i-1)
	})
	v, e := expr.Values(c, plain(), 20)
	same(t, "without shifts", []any{v[99], e}, []any{api.Pair{Name: "x099", Value: "7 good"}, api.OK})
	for i := range c[1:] {
		c[i+1].Expr = fmt.Sprintf("max(x%03d, x%03d@%d)", i, i, 1<<(i%26))
	}
	_, e = expr.Values(c, plain(), 20)
	same(t, "with shifts", e, api.ErrFull)
	_, e = expr.Run(c, plain(), "x099", window(0, 9))
	same(t, "with shifts", e, api.ErrFull)
}

func TestP54Moments(t *testing.T) {
	series := plain()
	for _, c := range []struct {
		s    string
		w    api.Window
		want []int
	}{
		{"a + a@5", window(12, 60), []int{12, 15, 50, 55}},
		{"a", window(0, 100), []int{0, 10, 50}},
		{"a", window(10, 50), []int{10}},
		{"a", window(10, 51), []int{10, 50}},
		{"a", window(11, 51), []int{11, 50}},
		{"a + b", window(0, 100), []int{0, 10, 50}},
		{"b@40 + a", window(0, 100), []int{0, 10, 50}},
		{"a@40 - b@7", window(0, 100), []int{0, 17, 50, 90}},
		{"if(0, a, 1)", window(0, 100), []int{0, 10, 50}},
		{"5", window(7, 100), []int{7}},
		{"c", window(7, 100), []int{7}},
		{"a", window(30, 30), nil},
		{"a", window(10, 10), nil},
		{"5", window(0, 0), nil},
		{"a", window(api.End, api.End), nil},
		{"a@86400000", window(0, api.End), []int{0, 86_400_010, 86_400_050}},
		{"a@86400000", window(0, 86_400_050), []int{0, 86_400_010}},
		{"a@3", window(13, 14), []int{13}},
	} {
		m, e := expr.Moments(c.s, series, c.w)
		same(t, fmt.Sprint(c.s, c.w), []any{m, e}, []any{c.want, api.OK})
	}
	m, e := expr.Moments("a@5", one("a", good(api.End-5, 1), good(api.End-2, 1)), window(0, api.End))
	same(t, "after the last moment", []any{m, e}, []any{[]int{0}, api.OK})
}

func TestP54Run(t *testing.T) {
	series := plain()
	c := calculated("half: x / 2; n: good(a); u: n@3; v: 5; w: v@20; x: y + 1; y: a * 2; z: x@10")
	for _, c2 := range []struct {
		tag  string
		w    api.Window
		want samples
	}{
		{"z", window(0, 100), samples{bad(0), good(20, 15), uncertain(60, 19)}},
		{"z", window(20, 60), samples{good(20, 15)}},
		{"z", window(25, 61), samples{good(25, 15), uncertain(60, 19)}},
		{"z", window(60, 60), nil},
		{"half", window(0, 100), samples{bad(0), good(10, 7), uncertain(50, 9)}},
		{"n", window(0, 100), samples{good(0, 0), good(10, 1), good(50, 0)}},
		{"v", window(3, 100), samples{good(3, 5)}},
		{"w", window(3, 100), samples{bad(3)}},
		{"w", window(20, 100), samples{good(20, 5)}},
		{"u", window(0, 100), samples{bad(0), good(13, 1), good(53, 0)}},
		{"u", window(2, 5), samples{bad(2)}},
		{"u", window(3, 5), samples{good(3, 0)}},
	} {
		l, e := expr.Run(c, series, c2.tag, c2.w)
		same(t, fmt.Sprint(c2.tag, c2.w), []any{l, e}, []any{c2.want, api.OK})
	}
	l, e := expr.Run(calculated("x: a - a"), []api.Series{{Tag: "a", Samples: samples{good(1, 5), good(2, 6), uncertain(3, 6), uncertain(4, 9), bad(5), bad(6), good(7, 1)}}}, "x", window(1, 9))
	same(t, "value or quality", []any{l, e}, []any{samples{good(1, 0), uncertain(3, 0), bad(5), good(7, 0)}, api.OK})
}

// network is calculated tags as they are meant.
type network map[string]tree

// someNetwork returns calculated tags m to q over the tags a to c, without cycles.
func someNetwork(r *rand.Rand) (network, calcs) {
	n, c := network{}, calcs{}
	tags := strings.Fields("a b c")
	for _, i := range r.Perm(5) {
		tag := string(rune('m' + i))
		x := someTree(r, 1+r.Intn(3), tags, 12)
		for len(x.String()) > api.MaxExpr {
			x = someTree(r, 2, tags, 12)
		}
		n[tag] = x
		c = append(c, api.Calc{Tag: tag, Expr: x.String()})
		tags = append(tags, tag, tag)
	}
	slices.SortFunc(c, func(x, y api.Calc) int { return strings.Compare(x.Tag, y.Tag) })
	return n, c
}

// look returns a function for the values of all tags, those of calculated ones evaluated anew each time.
func (n network) look(series []api.Series) func(tag string, at int) exact {
	base := lookIn(series)
	var look func(tag string, at int) exact
	look = func(tag string, at int) exact {
		x, ok := n[tag]
		switch {
		case !ok:
			return base(tag, at)
		case at < 0:
			return known(0, api.Bad)
		}
		return x.value(look, at).bounded(api.MaxValue)
	}
	return look
}

// moments adds the moments of a window at which samples can change a shifted tag.
func (n network) moments(tag string, by int, series []api.Series, w api.Window, found map[int]bool) {
	if x, ok := n[tag]; ok {
		for _, y := range x.refs() {
			n.moments(y.tag, by+max(y.shift, 0), series, w, found)
		}
		return
	}
	for _, x := range series {
		for _, y := range x.Samples {
			if at := y.At + by; x.Tag == tag && w.From <= at && at < w.To {
				found[at] = true
			}
		}
	}
}

func sorted(found map[int]bool) []int {
	var list []int
	for at := range found {
		list = append(list, at)
	}
	slices.Sort(list)
	return list
}

func TestP53ValuesAsTheDocumentSays(t *testing.T) {
	r := rand.New(rand.NewSource(57))
	words := names{"good", "uncertain", "bad"}
	for range 1500 {
		n, c := someNetwork(r)
		series, at := someSeries(r, strings.Fields("a b c m")), r.Intn(60)
		var want []api.Pair
		for _, x := range c {
			v := n.look(series)(x.Tag, at)
			want = append(want, api.Pair{Name: x.Tag, Value: v.n.String() + " " + words[v.quality]})
		}
		got, e := expr.Values(c, series, at)
		same(t, fmt.Sprint(c, series, at), []any{got, e}, []any{want, api.OK})
	}
}

func TestP54RunAsTheDocumentSays(t *testing.T) {
	r := rand.New(rand.NewSource(58))
	changed := 0
	for range 1500 {
		n, c := someNetwork(r)
		series, from := someSeries(r, strings.Fields("a b c m")), r.Intn(30)
		w, tag := window(from, from+r.Intn(60)), c[r.Intn(5)].Tag
		found := map[int]bool{w.From: true}
		n.moments(tag, 0, series, w, found)
		if w.From == w.To {
			clear(found)
		}
		var want samples
		for _, at := range sorted(found) {
			x := tree{kind: "tag", tag: tag, shift: -1}.at(n.look(series), at)
			if i := len(want) - 1; i < 0 || want[i].Value != x.Value || want[i].Quality != x.Quality {
				want = append(want, x)
			}
		}
		changed += len(want)
		got, e := expr.Run(c, series, tag, w)
		same(t, fmt.Sprint(c, series, tag, w), []any{got, e}, []any{want, api.OK})
		sum := map[int]bool{w.From: true}
		for _, y := range n[tag].refs() {
			network{}.moments(y.tag, max(y.shift, 0), series, w, sum)
		}
		if w.From == w.To {
			clear(sum)
		}
		moments, e := expr.Moments(n[tag].String(), series, w)
		same(t, fmt.Sprint(n[tag], series, w), []any{moments, e}, []any{sorted(sum), api.OK})
	}
	if changed < 2500 {
		t.Errorf("%d samples", changed)
	}
}

// TestP54RunBetweenMoments: between the moments that Run looks at, nothing changes by samples.
func TestP54RunBetweenMoments(t *testing.T) {
	r := rand.New(rand.NewSource(59))
	for range 300 {
		n, c := someNetwork(r)
		series, tag := someSeries(r, strings.Fields("a b c")), c[r.Intn(5)].Tag
		// From this moment on no shifted moment is below 0.
		w := window(70, 150)
		run, e := expr.Run(c, series, tag, w)
		same(t, fmt.Sprint(c), e, api.OK)
		for at := w.From; at < w.To; at++ {
			want := n.look(series)(tag, at)
			got := lookIn(one("x", run...))("x", at)
			same(t, fmt.Sprint(c, series, tag, at), fmt.Sprint(got.n, got.quality), fmt.Sprint(want.n, want.quality))
		}
	}
}

func TestP54RunMoments(t *testing.T) {
	every := func(n, first, step int) samples {
		var l samples
		for i := range n {
			l = append(l, good(first+i*step, i%2))
		}
		return l
	}
	for _, c := range []struct {
		text string
		l    samples
		w    api.Window
		want api.Errno
		long int
	}{
		{"x: a", every(api.MaxSamples, 0, 10), window(0, api.End), api.OK, api.MaxSamples},
		{"x: a", every(api.MaxSamples, 1, 10), window(1, api.End), api.OK, api.MaxSamples},
		{"x: a", every(api.MaxSamples, 1, 10), window(0, api.End), api.ErrLarge, 0},
		{"x: a", every(api.MaxSamples, 1, 10), window(0, 49_991), api.OK, api.MaxSamples},
		{"x: a + 2 * a@1", every(2_500, 0, 10), window(0, api.End), api.OK, 5_000},
		{"x: a + a@1", every(2_501, 0, 10), window(0, api.End), api.ErrLarge, 0},
		{"x: a + a@10", every(4_999, 0, 10), window(0, api.End), api.OK, 3},
		{"x: a + a@20", every(4_999, 0, 10), window(0, api.End), api.ErrLarge, 0},
		{"x: y + 4 * y@1; y: a + 2 * a@2", every(1_250, 0, 10), window(0, api.End), api.OK, 4_998},
		{"x: y + y@1; y: a + a@2", every(1_251, 0, 10), window(0, api.End), api.ErrLarge, 0},
		{"x: y; y: 1; z: a + a@1", every(api.MaxSamples, 0, 10), window(0, api.End), api.OK, 1},
	} {
		l, e := expr.Run(calculated(c.text), one("a", c.l...), "x", c.w)
		same(t, fmt.Sprint(c.text, c.w), []any{len(l), e}, []any{c.long, c.want})
	}
}

func TestP54WindowErrors(t *testing.T) {
	c := calculated("x: a; y: x")
	for _, w := range []api.Window{window(-1, 5), window(6, 5), window(0, api.End+1), window(api.End+1, api.End+1), window(math.MinInt, 5), window(0, math.MinInt), window(0, math.MaxInt), window(math.MinInt, math.MaxInt), window(math.MaxInt, math.MinInt)} {
		m, e := expr.Moments("a", plain(), w)
		same(t, fmt.Sprint(w), []any{m, e}, []any{"[]", api.ErrArg})
		l, e := expr.Run(c, plain(), "x", w)
		same(t, fmt.Sprint(w), []any{l, e}, []any{"[]", api.ErrArg})
		l, e = expr.Run(c, plain(), "no tag", w)
		same(t, fmt.Sprint(w), []any{l, e}, []any{"[]", api.ErrArg})
	}
	for _, w := range []api.Window{window(0, 0), window(0, api.End), window(api.End, api.End)} {
		_, e := expr.Moments("a", plain(), w)
		same(t, fmt.Sprint(w), e, api.OK)
		_, e = expr.Run(c, plain(), "y", w)
		same(t, fmt.Sprint(w), e, api.OK)
	}
}

func TestP53P54Errors(t *testing.T) {
	for what, c := range seriesErrors() {
		for _, text := range []string{"x: a", "x: x"} {
			l, e := expr.Run(calculated(text), c.series, "y", window(5, 4))
			same(t, what+": "+text, []any{l, e}, []any{"[]", c.want})
		}
		v, e := expr.Values(calculated("x: a"), c.series, -1)
		same(t, what, []any{v, e}, []any{"[]", c.want})
		v, e = expr.Values(shiftedTags(40, 40, 0), c.series, 0)
		same(t, what, []any{v, e}, []any{"[]", c.want})
		m, e := expr.Moments("a", c.series, window(5, 4))
		same(t, what, []any{m, e}, []any{"[]", c.want})
	}
	for at, want := range map[int]api.Errno{0: api.OK, api.End - 1: api.OK, -1: api.ErrArg, api.End: api.ErrArg, math.MinInt: api.ErrArg, math.MaxInt: api.ErrArg} {
		_, e := expr.Values(calculated("x: a"), plain(), at)
		same(t, fmt.Sprint("at ", at), e, want)
	}
	large := []api.Series{{Tag: "a", Samples: long(api.MaxSamples)}}
	for what, c := range map[string]struct {
		e    api.Errno
		want api.Errno
	}{
		"a loop before the window":      {second(expr.Run(calculated("x: x"), nil, "x", window(5, 4))), api.ErrLoop},
		"a loop elsewhere":              {second(expr.Run(calculated("x: 1; y: y"), nil, "x", window(0, 4))), api.ErrLoop},
		"the window before the tag":     {second(expr.Run(calculated("x: 1"), nil, "y", window(5, 4))), api.ErrArg},
		"no such tag":                   {second(expr.Run(calculated("x: 1"), nil, "y", window(4, 4))), api.ErrNone},
		"a tag that is not calculated":  {second(expr.Run(calculated("x: a"), plain(), "a", window(0, 4))), api.ErrNone},
		"no tag at all":                 {second(expr.Run(nil, plain(), "", window(0, 4))), api.ErrNone},
		"no name":                       {second(expr.Run(calculated("x: a"), plain(), "X", window(0, 4))), api.ErrNone},
		"no such tag before many":       {second(expr.Run(shiftedTags(40, 40, 0), plain(), "w", window(0, 4))), api.ErrNone},
		"many tags before many moments": {second(expr.Run(shiftedTags(40, 40, 0), large, "z", window(0, api.End))), api.ErrFull},
		"many moments":                  {second(expr.Run(shiftedTags(10, 10, 0), large, "z", window(0, api.End))), api.ErrLarge},
		"the moment before many tags":   {second(expr.Values(shiftedTags(40, 40, 0), plain(), -1)), api.ErrArg},
	} {
		same(t, what, c.e, c.want)
	}
}

func second[T any](_ T, e api.Errno) api.Errno { return e }

// long returns a valid series of n samples, one each 2 milliseconds.
func long(n int) samples {
	l := make(samples, n)
	for i := range l {
		l[i] = good(2*i, i%1_000)
	}
	return l
}
