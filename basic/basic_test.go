package basic_test

import (
	"cmp"
	"fmt"
	"math"
	"strings"
	"testing"

	"plantlog/api"
	"plantlog/basic"
)

func TestZ11Moments(t *testing.T) {
	for n, want := range map[int]bool{0: true, 1: true, api.End - 1: true, -1: false, api.End: false, math.MinInt: false, math.MaxInt: false} {
		if basic.Moment(n) != want {
			t.Errorf("Moment(%d) is not %v", n, want)
		}
	}
}

func TestWindows(t *testing.T) {
	for w, want := range map[api.Window]bool{
		{}:                                   true,
		{From: 0, To: api.End}:               true,
		{From: api.End, To: api.End}:         true,
		{From: 5, To: 4}:                     false,
		{From: -1, To: 4}:                    false,
		{From: 0, To: api.End + 1}:           false,
		{From: math.MinInt, To: 0}:           false,
		{From: 0, To: math.MinInt}:           false,
		{From: math.MaxInt, To: math.MaxInt}: false,
	} {
		if basic.Window(w) != want {
			t.Errorf("Window(%v) is not %v", w, want)
		}
	}
	for w, want := range map[api.Window]bool{
		{From: 0, To: 1}:                     true,
		{From: 0, To: api.End}:               true,
		{From: api.End - 1, To: api.End}:     true,
		{}:                                   false,
		{From: api.End, To: api.End}:         false,
		{From: 5, To: 4}:                     false,
		{From: -1, To: 4}:                    false,
		{From: 0, To: api.End + 1}:           false,
		{From: math.MinInt, To: math.MaxInt}: false,
		{From: math.MaxInt, To: math.MinInt}: false,
	} {
		if basic.Lasting(w) != want {
			t.Errorf("Lasting(%v) is not %v", w, want)
		}
	}
	w := api.Window{From: 3, To: 5}
	if n := basic.Long(w); n != 2 {
		t.Errorf("%v is %d long", w, n)
	}
	for n, want := range map[int]bool{2: false, 3: true, 4: true, 5: false} {
		if basic.Inside(n, w) != want {
			t.Errorf("Inside(%d, %v) is not %v", n, w, want)
		}
	}
}

func TestQualitiesAndValues(t *testing.T) {
	for n, want := range map[int]bool{api.Good: true, api.Uncertain: true, api.Bad: true, -1: false, 3: false, math.MinInt: false, math.MaxInt: false} {
		if basic.Quality(n) != want {
			t.Errorf("Quality(%d) is not %v", n, want)
		}
	}
	for n, want := range map[int]bool{0: true, api.MaxValue: true, -api.MaxValue: true, api.MaxValue + 1: false, -api.MaxValue - 1: false, math.MinInt: false, math.MaxInt: false} {
		if basic.Value(n) != want {
			t.Errorf("Value(%d) is not %v", n, want)
		}
	}
}

func TestQualityWords(t *testing.T) {
	for n, want := range map[int]string{api.Good: "good", api.Uncertain: "uncertain", api.Bad: "bad"} {
		word := basic.QualityWord(n)
		if m, ok := basic.QualityNamed(word); word != want || m != n || !ok {
			t.Errorf("the word for %d is %q, which stands for %d, %v", n, word, m, ok)
		}
	}
	for _, word := range []string{"", "Good", "good ", "goo", "0"} {
		if n, ok := basic.QualityNamed(word); n != 0 || ok {
			t.Errorf("%q stands for %d, %v", word, n, ok)
		}
	}
}

func TestPosition(t *testing.T) {
	l := []api.Sample{{At: 3}, {At: 5}, {At: 9}}
	for at, want := range map[int]int{math.MinInt: 0, 0: 0, 3: 0, 4: 1, 5: 1, 6: 2, 9: 2, 10: 3, math.MaxInt: 3} {
		if got := basic.Position(l, at); got != want {
			t.Errorf("the position of %d is %d, not %d", at, got, want)
		}
	}
	if got := basic.Position(nil, 5); got != 0 {
		t.Errorf("the position in no samples is %d", got)
	}
}

func TestRuns(t *testing.T) {
	l := []api.Sample{{At: 5, Value: 1}, {At: 10, Value: 1}, {At: 20, Quality: api.Bad}, {At: 30, Value: 7, Quality: api.Uncertain}, {At: 40, Value: 2}}
	for _, c := range []struct {
		from, to, worst int
		want            string
	}{
		{0, 50, api.Uncertain, " 1:5-10 1:10-20 7:30-40 2:40-50"},
		{0, 50, api.Good, " 1:5-10 1:10-20 2:40-50"},
		{0, 50, api.Bad, " 1:5-10 1:10-20 0:20-30 7:30-40 2:40-50"},
		{7, 33, api.Uncertain, " 1:7-10 1:10-20 7:30-33"},
		{9, 12, api.Uncertain, " 1:9-10 1:10-12"},
		{5, 10, api.Uncertain, " 1:5-10"},
		{7, 7, api.Uncertain, ""},
		{10, 11, api.Uncertain, " 1:10-11"},
		{0, 5, api.Uncertain, ""},
		{20, 30, api.Uncertain, ""},
		{10, 10, api.Uncertain, ""},
		{100, api.End, api.Uncertain, " 2:100-345686400000"},
	} {
		got := ""
		for value, run := range basic.Runs(l, api.Window{From: c.from, To: c.to}, c.worst) {
			got += fmt.Sprintf(" %d:%d-%d", value, run.From, run.To)
		}
		if got != c.want {
			t.Errorf("from %d to %d, %d at worst: %q", c.from, c.to, c.worst, got)
		}
	}
	for range basic.Runs(nil, api.Window{From: 0, To: 10}, api.Bad) {
		t.Error("a value of no samples")
	}
	count := 0
	for range basic.Runs(l, api.Window{From: 0, To: 50}, api.Bad) {
		count++
		if count == 2 {
			break
		}
	}
	if count != 2 {
		t.Errorf("%d values before the end", count)
	}
}

func TestZ11Keys(t *testing.T) {
	for s, want := range map[string]bool{
		"a": true, "a0": true, "z9-_": true, "pump-1_a": true, strings.Repeat("a", api.MaxName): true,
		"": false, strings.Repeat("a", api.MaxName+1): false,
		"1a": false, "-a": false, "_a": false, "A": false, "aB": false, "a b": false, "a.": false,
		"a\n": false, "a\x00": false, "ä": false, "aä": false, "a{": false, "a`": false, "a/": false, "a:": false, "{": false, "`": false,
	} {
		if basic.Key(s) != want {
			t.Errorf("Key(%q) is not %v", s, want)
		}
	}
}

func TestLowestTerms(t *testing.T) {
	for f, want := range map[api.Fraction]bool{
		{Num: 0, Den: 1}:                         true,
		{Num: 1, Den: 1}:                         true,
		{Num: -3, Den: 2}:                        true,
		{Num: 3, Den: 2}:                         true,
		{Num: math.MinInt, Den: 1}:               true,
		{Num: math.MinInt, Den: math.MaxInt}:     true,
		{Num: math.MaxInt - 1, Den: math.MaxInt}: true,
		{Num: 0, Den: 2}:                         false,
		{Num: 2, Den: 4}:                         false,
		{Num: -2, Den: 4}:                        false,
		{Num: math.MinInt, Den: 2}:               false,
		{Num: math.MaxInt, Den: math.MaxInt}:     false,
		{Num: 1, Den: 0}:                         false,
		{Num: 0, Den: 0}:                         false,
		{Num: 1, Den: -1}:                        false,
		{Num: math.MinInt, Den: math.MinInt}:     false,
		{Num: math.MinInt, Den: -1}:              false,
	} {
		if basic.Lowest(f) != want {
			t.Errorf("Lowest(%v) is not %v", f, want)
		}
	}
}

func TestReduced(t *testing.T) {
	for _, c := range []struct {
		number, by int
		want       api.Fraction
	}{
		{0, 1, api.Fraction{Num: 0, Den: 1}},
		{0, 12, api.Fraction{Num: 0, Den: 1}},
		{12, 18, api.Fraction{Num: 2, Den: 3}},
		{-12, 18, api.Fraction{Num: -2, Den: 3}},
		{18, 12, api.Fraction{Num: 3, Den: 2}},
		{-18, 9, api.Fraction{Num: -2, Den: 1}},
		{7, 9, api.Fraction{Num: 7, Den: 9}},
		{math.MinInt, 6, api.Fraction{Num: math.MinInt / 2, Den: 3}},
		{math.MinInt, math.MaxInt, api.Fraction{Num: math.MinInt, Den: math.MaxInt}},
		{math.MaxInt, math.MaxInt, api.Fraction{Num: 1, Den: 1}},
	} {
		if got := basic.Reduced(c.number, c.by); got != c.want {
			t.Errorf("%d by %d is %v, not %v", c.number, c.by, got, c.want)
		}
	}
}

func TestDistance(t *testing.T) {
	for _, c := range [][3]int{{0, 0, 0}, {3, 5, 2}, {5, 3, 2}, {-3, 5, 8}, {-3, -5, 2}, {api.MaxValue, -api.MaxValue, 2 * api.MaxValue}} {
		if got := basic.Distance(c[0], c[1]); got != c[2] {
			t.Errorf("from %d to %d: %d", c[0], c[1], got)
		}
	}
}

func TestFloor(t *testing.T) {
	for f, want := range map[api.Fraction]int{
		{Num: 0, Den: 1}:                            0,
		{Num: 7, Den: 1}:                            7,
		{Num: -7, Den: 1}:                           -7,
		{Num: 7, Den: 2}:                            3,
		{Num: -7, Den: 2}:                           -4,
		{Num: 1, Den: 3}:                            0,
		{Num: -1, Den: 3}:                           -1,
		{Num: math.MinInt, Den: 1}:                  math.MinInt,
		{Num: math.MinInt, Den: math.MaxInt}:        -2,
		{Num: -math.MaxInt, Den: math.MaxInt - 1}:   -2,
		{Num: math.MaxInt, Den: math.MaxInt - 1}:    1,
		{Num: math.MaxInt - 1, Den: math.MaxInt}:    0,
		{Num: -(math.MaxInt - 1), Den: math.MaxInt}: -1,
	} {
		if got := basic.Floor(f); got != want {
			t.Errorf("Floor(%v) is %d", f, got)
		}
	}
}

func TestThousandths(t *testing.T) {
	for f, want := range map[api.Fraction]int{
		{Num: 0, Den: 1}:                              0,
		{Num: 7, Den: 1}:                              7000,
		{Num: -7, Den: 1}:                             -7000,
		{Num: 2, Den: 3}:                              666,
		{Num: -2, Den: 3}:                             -667,
		{Num: 5, Den: 3}:                              1666,
		{Num: -5, Den: 3}:                             -1667,
		{Num: 1, Den: 1001}:                           0,
		{Num: -1, Den: 1001}:                          -1,
		{Num: 1, Den: 1000}:                           1,
		{Num: 999, Den: 1000}:                         999,
		{Num: -999, Den: 1000}:                        -999,
		{Num: 9_999, Den: 10_000}:                     999,
		{Num: -9_999, Den: 10_000}:                    -1000,
		{Num: 1, Den: api.End}:                        0,
		{Num: -1, Den: api.End}:                       -1,
		{Num: api.MaxValue, Den: 1}:                   1000 * api.MaxValue,
		{Num: -api.MaxValue, Den: 1}:                  -1000 * api.MaxValue,
		{Num: api.MaxValue*api.End - 1, Den: api.End}: 1000*api.MaxValue - 1,
		{Num: 1 - api.MaxValue*api.End, Den: api.End}: -1000 * api.MaxValue,
	} {
		if got := basic.Thousandths(f); got != want {
			t.Errorf("%v is %d thousandths, not %d", f, got, want)
		}
	}
}

func TestOnLine(t *testing.T) {
	const half = api.End/2 - 1
	for _, c := range []struct {
		p, n api.Sample
		at   int
		want api.Fraction
	}{
		{api.Sample{At: 0, Value: 0}, api.Sample{At: 10, Value: 20}, 5, api.Fraction{Num: 10, Den: 1}},
		{api.Sample{At: 10, Value: 5}, api.Sample{At: 13, Value: 0}, 11, api.Fraction{Num: 10, Den: 3}},
		{api.Sample{At: 10, Value: 5}, api.Sample{At: 13, Value: 0}, 10, api.Fraction{Num: 5, Den: 1}},
		{api.Sample{At: 10, Value: -5}, api.Sample{At: 14, Value: 5}, 12, api.Fraction{Num: 0, Den: 1}},
		{api.Sample{At: 0, Value: api.MaxValue}, api.Sample{At: 2 * half, Value: -api.MaxValue}, half, api.Fraction{Num: 0, Den: 1}},
		{api.Sample{At: 0, Value: -api.MaxValue}, api.Sample{At: 2 * half, Value: api.MaxValue}, 2*half - 1, api.Fraction{Num: api.MaxValue*half - api.MaxValue, Den: half}},
		{api.Sample{At: 0, Value: api.MaxSkew}, api.Sample{At: 2 * half, Value: -api.MaxSkew}, 2*half - 1, api.Fraction{Num: api.MaxSkew - api.MaxSkew*half, Den: half}},
	} {
		want := basic.Reduced(c.want.Num, c.want.Den)
		if got := basic.OnLine(c.p, c.n, c.at); got != want {
			t.Errorf("from %v to %v at %d: %v, not %v", c.p, c.n, c.at, got, want)
		}
	}
}

func TestZ10Numbers(t *testing.T) {
	for s, want := range map[string]int{"0": 0, "7": 7, "-7": -7, "10": 10, "123456789012345": 123456789012345, "-123456789012345": -123456789012345} {
		if n, ok := basic.Number(s, 15); n != want || !ok {
			t.Errorf("Number(%q) is %d, %v", s, n, ok)
		}
	}
	for _, s := range []string{"", "-", "-0", "00", "01", "-01", "+1", "--1", " 1", "1 ", "1_0", "0x1", "1.0", "1e3", "a", "١", "1234567890123456", "-1234567890123456", strings.Repeat("9", 1000)} {
		if n, ok := basic.Number(s, 15); n != 0 || ok {
			t.Errorf("Number(%q) is %d, %v", s, n, ok)
		}
	}
	if n, ok := basic.Number("9223372036854775807", 19); n != math.MaxInt || !ok {
		t.Errorf("the greatest int is %d, %v", n, ok)
	}
	if n, ok := basic.Number("9223372036854775808", 19); n != 0 || ok {
		t.Errorf("a number that is not an int is %d, %v", n, ok)
	}
}

func TestNumbers(t *testing.T) {
	if got, ok := basic.Numbers([]string{"0", "-7", "123"}, 3); fmt.Sprint(got, ok) != "[0 -7 123] true" {
		t.Errorf("%v, %v", got, ok)
	}
	if got, ok := basic.Numbers(nil, 3); len(got) > 0 || !ok {
		t.Errorf("no numbers are %v, %v", got, ok)
	}
	for _, words := range [][]string{{""}, {"x", "1"}, {"1", "-0"}, {"1", "1234", "1"}} {
		if got, ok := basic.Numbers(words, 3); len(got) > 0 || ok {
			t.Errorf("%q are %v, %v", words, got, ok)
		}
	}
}

func TestSampleOf(t *testing.T) {
	for line, want := range map[string]api.Sample{
		"5 50 good":                        {At: 5, Value: 50},
		"0 -7 uncertain":                   {Value: -7, Quality: api.Uncertain},
		"9 0 bad":                          {At: 9, Quality: api.Bad},
		"-123456789012345 1 bad":           {At: -123456789012345, Value: 1, Quality: api.Bad},
		"123456789012345 -1 good":          {At: 123456789012345, Value: -1},
		"345686399999 123456789012345 bad": {At: api.End - 1, Value: 123456789012345, Quality: api.Bad},
	} {
		if got, ok := basic.SampleOf(strings.Split(line, " ")); got != want || !ok {
			t.Errorf("%q is %v, %v", line, got, ok)
		}
	}
	for _, line := range []string{"", "5", "5 50", "5 50 good good", "5 50 ", " 50 good", "5  good", "5 50 Good", "5 50 0", "05 50 good", "5 -0 good", "1234567890123456 50 good", "5 1234567890123456 good", "good 5 50", "x 50 good", "5 x good"} {
		if got, ok := basic.SampleOf(strings.Split(line, " ")); got != (api.Sample{}) || ok {
			t.Errorf("%q is %v, %v", line, got, ok)
		}
	}
}

func TestZ9ReadLines(t *testing.T) {
	read := func(line string) (string, bool) { return "<" + line + ">", line != "no" }
	for _, c := range []struct {
		text, list string
		line       int
		e          api.Errno
	}{
		{"", "[]", 0, api.OK},
		{"a\n", "[<a>]", 0, api.OK},
		{"a\n\nb c\r\n", "[<a> <> <b c\r>]", 0, api.OK},
		{"a", "[]", 0, api.ErrSyntax},
		{"a\nb", "[]", 1, api.ErrSyntax},
		{"a\nno\nb", "[]", 1, api.ErrSyntax},
		{"no\nno\n", "[]", 0, api.ErrSyntax},
		{strings.Repeat("\n", api.MaxText) + "\n", "[]", 0, api.ErrLarge},
		{"no\n" + strings.Repeat("x", api.MaxText), "[]", 0, api.ErrLarge},
		{strings.Repeat("x", api.MaxText-1) + "\n", "[<" + strings.Repeat("x", api.MaxText-1) + ">]", 0, api.OK},
	} {
		list, line, e := basic.ReadLines(c.text, read)
		if fmt.Sprint(list) != c.list || line != c.line || e != c.e {
			t.Errorf("%.20q is %.20q, line %d, error %d", c.text, list, line, e)
		}
	}
}

func TestCheckAllSeries(t *testing.T) {
	check := func(l []api.Sample) api.Errno {
		if len(l) > 1 {
			return api.ErrFull
		}
		return api.OK
	}
	for name, c := range map[string]struct {
		s    []api.Series
		want api.Errno
	}{
		"none":                   {nil, api.OK},
		"two":                    {[]api.Series{{Tag: "a", Samples: make([]api.Sample, 1)}, {Tag: "b"}}, api.OK},
		"too many":               {make([]api.Series, api.MaxTags+1), api.ErrLarge},
		"not too many":           {make([]api.Series, api.MaxTags), api.ErrName},
		"no key":                 {[]api.Series{{Tag: "a"}, {Tag: "B", Samples: make([]api.Sample, 2)}}, api.ErrName},
		"a tag twice":            {[]api.Series{{Tag: "a"}, {Tag: "a", Samples: make([]api.Sample, 2)}}, api.ErrOrder},
		"a lesser tag":           {[]api.Series{{Tag: "b"}, {Tag: "a"}, {}}, api.ErrOrder},
		"what check says":        {[]api.Series{{Tag: "a"}, {Tag: "b", Samples: make([]api.Sample, 2)}}, api.ErrFull},
		"what check says before": {[]api.Series{{Tag: "a", Samples: make([]api.Sample, 2)}, {}}, api.ErrFull},
	} {
		if e := basic.CheckAllSeries(c.s, check); e != c.want {
			t.Errorf("%s: error %d", name, e)
		}
	}
}

func TestCheckKeyed(t *testing.T) {
	type element struct {
		key string
		e   api.Errno
	}
	for name, c := range map[string]struct {
		l    []element
		want api.Errno
	}{
		"none":                         {nil, api.OK},
		"as many as can be":            {[]element{{"a", api.OK}, {"b", api.OK}, {"c", api.OK}}, api.OK},
		"too many":                     {make([]element, 4), api.ErrLarge},
		"no key":                       {[]element{{"a", api.OK}, {"B", api.ErrFull}}, api.ErrName},
		"a key twice":                  {[]element{{"a", api.OK}, {"a", api.ErrFull}}, api.ErrOrder},
		"a lesser key":                 {[]element{{"b", api.OK}, {"a", api.ErrFull}, {}}, api.ErrOrder},
		"what check says":              {[]element{{"a", api.OK}, {"b", api.ErrFull}}, api.ErrFull},
		"what check says of the first": {[]element{{"b", api.ErrLoop}, {"c", api.ErrFull}, {"a", api.OK}}, api.ErrLoop},
	} {
		e := basic.CheckKeyed(c.l, 3, func(x element) string { return x.key }, func(x element) api.Errno { return x.e })
		if e != c.want {
			t.Errorf("%s: error %d", name, e)
		}
	}
}

func TestCheckParents(t *testing.T) {
	chain := map[string]string{"0": ""}
	for i := range 200 {
		chain[fmt.Sprint(i+1)] = fmt.Sprint(i)
	}
	for name, c := range map[string]struct {
		parents map[string]string
		want    api.Errno
	}{
		"none":                   {nil, api.OK},
		"without parents":        {map[string]string{"a": "", "b": ""}, api.OK},
		"a tree":                 {map[string]string{"a": "", "b": "a", "c": "a", "d": "c"}, api.OK},
		"a long chain":           {chain, api.OK},
		"no such parent":         {map[string]string{"a": "", "b": "c"}, api.ErrNone},
		"no such one and a loop": {map[string]string{"a": "a", "b": "c"}, api.ErrNone},
		"its own parent":         {map[string]string{"a": "", "b": "b"}, api.ErrLoop},
		"over another one":       {map[string]string{"a": "b", "b": "a"}, api.ErrLoop},
		"over all":               {map[string]string{"a": "b", "b": "c", "c": "a"}, api.ErrLoop},
		"under a loop":           {map[string]string{"a": "b", "b": "b"}, api.ErrLoop},
	} {
		if e := basic.CheckParents(c.parents); e != c.want {
			t.Errorf("%s: error %d", name, e)
		}
	}
}

func TestDiffering(t *testing.T) {
	l := []api.Sample{{At: 1, Value: 5}, {At: 3, Quality: api.Bad}, {At: 4, Value: 7}}
	for name, c := range map[string]struct {
		a, b []api.Sample
		want string
	}{
		"nothing":         {nil, nil, "[]"},
		"the same":        {l, l, "[]"},
		"all":             {l, nil, "[1 3 4]"},
		"all, of b":       {nil, l, "[1 3 4]"},
		"another value":   {l, []api.Sample{{At: 1, Value: 6}, l[1], l[2]}, "[1]"},
		"another quality": {l, []api.Sample{{At: 1, Value: 5, Quality: api.Uncertain}, l[1], l[2]}, "[1]"},
		"another moment":  {l, []api.Sample{l[0], {At: 2, Quality: api.Bad}, l[2], {At: 9}}, "[2 3 9]"},
	} {
		if got := fmt.Sprint(basic.Differing(c.a, c.b)); got != c.want {
			t.Errorf("%s: %s", name, got)
		}
	}
}

func TestByTag(t *testing.T) {
	samples := basic.ByTag([]api.Series{{Tag: "a", Samples: []api.Sample{{At: 5}}}, {Tag: "b"}})
	if len(samples) != 2 || len(samples["a"]) != 1 || samples["a"][0].At != 5 || len(samples["b"]) != 0 {
		t.Error(samples)
	}
}

func TestAlign(t *testing.T) {
	for _, c := range []struct {
		a, b []int
		want string
	}{
		{nil, nil, ""},
		{[]int{1, 2}, nil, " 1 2"},
		{nil, []int{1, 2}, " 1 2"},
		{[]int{1, 3, 5}, []int{2, 3, 4}, " 1 2 3=3 4 5"},
		{[]int{4, 5}, []int{1, 2, 6}, " 1 2 4 5 6"},
	} {
		got := ""
		basic.Align(c.a, c.b, cmp.Compare[int],
			func(x int) { got += fmt.Sprintf(" %d", x) },
			func(x, y int) { got += fmt.Sprintf(" %d=%d", x, y) })
		if got != c.want {
			t.Errorf("Align(%v, %v) is %q", c.a, c.b, got)
		}
	}
	basic.Align([]string{"ax"}, []string{"ay"}, func(x, y string) int { return cmp.Compare(x[0], y[0]) },
		func(string) { t.Error("an element with an equal one alone") },
		func(x, y string) {
			if x != "ax" || y != "ay" {
				t.Errorf("%q before %q", x, y)
			}
		})
}
