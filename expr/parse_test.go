package expr_test

import (
	"fmt"
	"math/rand"
	"strconv"
	"strings"
	"testing"

	"plantlog/api"
	"plantlog/expr"
)

// checked returns what Check does, and whether the other functions with an expression return the same error.
func checked(t *testing.T, s string) string {
	t.Helper()
	at, e := expr.Check(s)
	format, at1, e1 := expr.Format(s)
	tags, at2, e2 := expr.Tags(s)
	depth, at3, e3 := expr.Depth(s)
	if e != api.OK {
		sample, e4 := expr.Eval(s, nil, -1)
		n, ok, e5 := expr.Constant(s)
		moments, e6 := expr.Moments(s, make([]api.Series, api.MaxTags+1), window(-1, -1))
		same(t, s, []any{format, at1, e1, tags, at2, e2, depth, at3, e3}, []any{"", at, e, "[]", at, e, 0, at, e})
		same(t, s, []any{sample, e4, n, ok, e5, moments, e6}, []any{api.Sample{}, e, 0, false, e, "[]", e})
		same(t, s, expr.CheckCalcs(calcs{{Tag: "x", Expr: s}}), e)
		return fmt.Sprint(at, e)
	}
	same(t, s, []any{at1, at2, e2, at3, e3}, []any{0, 0, e, 0, e})
	return fmt.Sprint(at, e)
}

func syntax(at int) string { return fmt.Sprint(at, api.ErrSyntax) }

func TestP51Syntax(t *testing.T) {
	name := strings.Repeat("n", api.MaxName)
	for s, at := range map[string]int{
		"": 0, " ": 1, "   ": 3, "a+": 2, "a + ": 4, "a b": 2, "(a": 2, "a)": 1, "()": 1, ")": 0, "a,b": 1, "(a,b)": 2,
		"a 1": 2, "1 a": 2, "1a": 1, "1 1": 2, "12 012": 3, "a(b)": 1, "1(b)": 1, "(a)(b)": 3, "(a)b": 3,
		"*a": 0, "/a": 0, "+a": 0, "<a": 0, "=a": 0, ",a": 0, "@5": 0, "a+*b": 2, "a*/b": 2, "a-+b": 2, "a*+b": 2,
		"a<b<c": 3, "a<b=c": 3, "a=b=c": 3, "(a<b<c)": 4, "min(a<b<c,1)": 7, "a<": 2, "a<<b": 2, "a<=b": 2, "a==b": 2, "a=<b": 2,
		"-": 1, "a-": 2, "--": 2, "-*a": 1, "-)": 1,
		"max": 3, "max ": 4, "max+1": 3, "max@5": 3, "max a": 4, "if if": 3, "a + good": 8, "min(": 4, "min()": 4, "min(,": 4,
		"min(a)": 5, "min(a,b,c)": 7, "abs(a,b)": 5, "abs()": 4, "good(a,b)": 6, "if(a,b)": 6, "if(a)": 4, "if(a,b,c,d)": 8, "max(a,": 6, "max(a,)": 6, "max(a,b": 7, "max(min(a),b)": 9,
		"a@": 2, "a@b": 2, "a@-5": 2, "a@(5)": 2, "a@86400001": 2, "a@999999999": 2, "a@05": 2, "a@00": 2, "a@1000000000": 2, "a@5@5": 3, "a@5 5": 4, "a@ 86400001": 3, "5@5": 1, "(a)@5": 3, "abs(a)@5": 6, "a@5b": 3,
		"01": 0, "00": 0, "a+007": 2, "1000000000": 0, "a+1000000000": 2, "0000000000": 0, "1.5": 1, "1_0": 1,
		name + "n": 0, "a+" + name + "n": 2, "a+(" + name + "0+1": 3, "abs" + name + "(1)": 0,
		"A": 0, "aB": 1, "a+B": 2, "_a": 0, "a+_": 2, "a$": 1, "a\t": 1, "\ta": 0, "a\n": 1, "a+\x00": 2, "a\x7f": 1, "ä": 0, "aä": 1, "a\xff": 1, "\xff": 0, "a>b": 1, "a!": 1, "a.b": 1, "a\u00a0+b": 1, "١": 0, "a;": 1, "[a]": 0, "a^2": 1, "a%b": 1, "\"a\"": 0,
		"a b $": 2, "a + $ b": 4, "(a $": 3, "max(a $": 6,
	} {
		same(t, fmt.Sprintf("%q", s), checked(t, s), syntax(at))
	}
	for _, s := range []string{name, name + "@0", "a-b", "a @ 86400000", "999999999", "0", "-0", "a@0", "min(a,b)", "max ( a , b )", "iff", "mi", "min1+1", "abs_", " a ", "(a<b)<c", "min(a<b,c=d)", "if(a<b,c=d,e<f)", "(a=b)=(c=d)", "a0", "a_"} {
		same(t, s, checked(t, s), fmt.Sprint(0, api.OK))
	}
}

func TestP51Size(t *testing.T) {
	for s, want := range map[string]string{
		strings.Repeat(" ", api.MaxExpr-1) + "a":     fmt.Sprint(0, api.OK),
		strings.Repeat(" ", api.MaxExpr) + "a":       fmt.Sprint(0, api.ErrLarge),
		strings.Repeat("$", api.MaxExpr):             syntax(0),
		strings.Repeat("$", api.MaxExpr+1):           fmt.Sprint(0, api.ErrLarge),
		strings.Repeat("(", api.MaxExpr):             syntax(api.MaxExpr),
		strings.Repeat("-", api.MaxExpr):             syntax(api.MaxExpr),
		strings.Repeat("a+", api.MaxExpr/2-1) + "aa": fmt.Sprint(0, api.OK),
		strings.Repeat("a", 200_000):                 fmt.Sprint(0, api.ErrLarge),
	} {
		same(t, fmt.Sprintf("%d bytes: %.9s", len(s), s), checked(t, s), want)
	}
}

func TestP51Nesting(t *testing.T) {
	r := strings.Repeat
	large := func(at int) string { return fmt.Sprint(at, api.ErrLarge) }
	ok := fmt.Sprint(0, api.OK)
	for s, want := range map[string]string{
		r("(", 20) + "a" + r(")", 20):                      ok,
		r("(", 21) + "a" + r(")", 21):                      large(21),
		r("(", 22) + "a" + r(")", 22):                      large(21),
		r("-", 20) + "a":                                   ok,
		r("-", 21) + "a":                                   large(21),
		r("-", 21) + " a":                                  large(22),
		r("-", 22) + "a":                                   large(21),
		r("-(", 10) + "a" + r(")", 10):                     ok,
		r("-(", 10) + "-a" + r(")", 10):                    large(21),
		r("-(", 10) + "a-a" + r(")", 10):                   ok,
		r("abs(", 20) + "a" + r(")", 20):                   ok,
		r("abs(", 21) + "a" + r(")", 21):                   large(84),
		r("(", 20) + "a" + r(")", 20) + "+((-a))":          ok,
		r("(", 20) + "-a@5" + r(")", 20):                   large(21),
		r("(", 19) + "-a@5" + r(")", 19):                   ok,
		r("(", 20) + "a+-a" + r(")", 20):                   large(23),
		r("(", 19) + "-a+-a*-a" + r(")", 19):               ok,
		r("(", 20) + "a" + r(")", 19) + "+-a)":             ok,
		r("-", 20) + "a+" + r("-", 21) + "a":               large(43),
		r("-", 20) + "(a)":                                 large(21),
		r("-", 19) + "(a)":                                 ok,
		r("-", 20) + "abs(a)":                              large(24),
		r("max(a,", 20) + "b" + r(")", 20):                 ok,
		r("max(a,", 21) + "b" + r(")", 21):                 large(124),
		r("(", 21) + "a" + r(")", 20):                      syntax(42),
		r("-", 21):                                         syntax(21),
		"if(" + r("(", 19) + "a" + r(")", 19) + ",-b,--c)": ok,
	} {
		same(t, s, checked(t, s), want)
	}
}

// machine says for each token whether it can stand where it stands, and how deep it is nested, with a stack instead of functions for what the document defines.
type machine struct {
	stack []frame
	after string // the kind of the token before: "", "operand", "tag", "function", "@"
}

// frame is what parentheses are around.
type frame struct {
	commas   int  // that have to come yet
	compared bool // there was a < or a = already
	minuses  int  // of FACTORs that have not ended
}

func newMachine() *machine { return &machine{stack: []frame{{}}} }

func (m *machine) top() *frame { return &m.stack[len(m.stack)-1] }

func (m *machine) depth() int {
	depth := len(m.stack) - 1
	for _, x := range m.stack {
		depth += x.minuses
	}
	return depth
}

// ended reports whether an operand ended before the token to come.
func (m *machine) ended() bool { return m.after == "operand" || m.after == "tag" }

func (m *machine) complete() bool { return m.ended() && len(m.stack) == 1 }

// canStand reports whether a token can stand here.
func (m *machine) canStand(text string) bool {
	n, err := strconv.Atoi(text)
	switch {
	case m.after == "function":
		return text == "("
	case m.after == "@":
		return err == nil && strconv.Itoa(n) == text && n <= api.MaxShift
	case text == "@":
		return m.after == "tag"
	case strings.Contains("+*/", text):
		return m.ended()
	case text == "<" || text == "=":
		return m.ended() && !m.top().compared
	case text == "-":
		return true
	case text == ",":
		return m.ended() && m.top().commas > 0
	case text == ")":
		return m.ended() && len(m.stack) > 1 && m.top().commas == 0
	case text == "(":
		return !m.ended()
	case err == nil:
		return !m.ended() && strconv.Itoa(n) == text && len(text) <= 9
	}
	return !m.ended() && text[0] >= 'a' && text[0] <= 'z' && len(text) <= api.MaxName
}

// take goes past a token that can stand here, and returns its depth.
func (m *machine) take(text string) int {
	if m.ended() && text != "@" {
		m.top().minuses = 0
	}
	depth := m.depth()
	switch {
	case text == "-" && !m.ended():
		m.top().minuses++
	case text == "<" || text == "=":
		m.top().compared = true
		m.after = ""
	case text == ",":
		m.top().commas--
		m.top().compared = false
		m.after = ""
	case strings.Contains("+-*/", text):
		m.after = ""
	case text == "@":
		m.after = "@"
	case text == "(":
		x := frame{}
		if m.after == "function" {
			x.commas = m.top().commas
			m.stack = m.stack[:len(m.stack)-1]
		}
		m.stack = append(m.stack, x)
		m.after = ""
	case text == ")":
		m.stack = m.stack[:len(m.stack)-1]
		m.after = "operand"
	case operandsOf(text) != 2 || text == "min" || text == "max":
		m.takeFunction(text)
	case text[0] >= '0' && text[0] <= '9':
		m.after = "operand"
	default:
		m.after = "tag"
	}
	return depth
}

// takeFunction keeps the number of commas in a frame that the parenthesis after the function replaces.
func (m *machine) takeFunction(name string) {
	m.after = "function"
	m.stack = append(m.stack, frame{commas: operandsOf(name) - 1})
}

// judged returns what the document says of tokens with their offsets in a string.
func judged(s string, tokens []string, offsets []int) string {
	m := newMachine()
	deep := -1
	for i, text := range tokens {
		if !m.canStand(text) {
			return syntax(offsets[i])
		}
		waiting := m.after == "function"
		depth := m.take(text)
		if waiting {
			depth-- // the frame that waits for its parenthesis
		}
		if depth > api.MaxNested && deep < 0 {
			deep = offsets[i]
		}
	}
	switch {
	case !m.complete():
		return syntax(len(s))
	case deep >= 0:
		return fmt.Sprint(deep, api.ErrLarge)
	}
	return fmt.Sprint(0, api.OK)
}

// someTokens returns tokens that fit mostly, if they are to.
func someTokens(r *rand.Rand, fitting bool) []string {
	words := strings.Fields("a b1 maxi max min abs good if ( ( ( ( ) ) ) , , @ + - - - * / < = 0 7 86400000 86400001 999999999 1000000000 01 A $ _ > " + strings.Repeat("n", 40) + " " + strings.Repeat("n", 41))
	m := newMachine()
	var list []string
	if r.Intn(4) == 0 {
		words = strings.Fields("( ( ( - - abs a ) + @ 5")
	}
	for range 1 + r.Intn(80) {
		text := words[r.Intn(len(words))]
		for tries := 0; fitting && tries < 40 && !m.canStand(text); tries++ {
			text = words[r.Intn(len(words))]
		}
		list = append(list, text)
		if !m.canStand(text) {
			continue
		}
		m.take(text)
		if m.complete() && r.Intn(8) == 0 {
			break
		}
	}
	for fitting && !m.complete() && len(list) < 200 {
		for _, text := range []string{")", ",", "(", "1"} {
			if m.canStand(text) {
				m.take(text)
				list = append(list, text)
				break
			}
		}
	}
	return list
}

// joined returns tokens as a string, with blanks at least where they would be one token without, and the offset of each.
func joined(r *rand.Rand, tokens []string) (string, []int) {
	s, offsets := "", []int{}
	wordy := func(c byte) bool { return c == '_' || c >= '0' && c <= '9' || c >= 'a' && c <= 'z' }
	space := someSpace(r)
	for _, text := range tokens {
		s += space()
		if s != "" && wordy(s[len(s)-1]) && wordy(text[0]) {
			s += " "
		}
		offsets = append(offsets, len(s))
		s += text
	}
	return s + space(), offsets
}

func TestP51SyntaxAsTheDocumentSays(t *testing.T) {
	r := rand.New(rand.NewSource(53))
	kinds := map[string]int{}
	for i := range 8_000 {
		tokens := someTokens(r, i%3 > 0)
		s, offsets := joined(r, tokens)
		if len(s) > api.MaxExpr {
			continue
		}
		want := judged(s, tokens, offsets)
		same(t, fmt.Sprintf("%q", s), checked(t, s), want)
		kinds[strings.Fields(want)[1]]++
	}
	if kinds[fmt.Sprint(api.OK)] < 500 || kinds[fmt.Sprint(api.ErrSyntax)] < 500 || kinds[fmt.Sprint(api.ErrLarge)] < 20 {
		t.Errorf("results: %v", kinds)
	}
}
