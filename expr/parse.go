package expr

import (
	"cmp"
	"slices"
	"strings"

	"plantlog/api"
	"plantlog/basic"
)

// maxDigits is how many digits a number of an expression has at most.
const maxDigits = 9

// token is a part of an expression. It has no text at the end, and if it cannot stand anywhere.
type token struct {
	at   int
	text string
}

// tokenAt returns the first token from an offset on.
func tokenAt(s string, from int) token {
	rest := strings.TrimLeft(s[from:], " ")
	return token{len(s) - len(rest), firstToken(rest)}
}

// firstToken returns the token that a string begins with.
func firstToken(s string) string {
	switch {
	case s == "":
		return ""
	case isNumber(s):
		digits := leading(s, isDigit)
		if _, ok := basic.Number(digits, maxDigits); !ok {
			return ""
		}
		return digits
	case isName(s):
		name := leading(s, func(c rune) bool { return isSmall(c) || isDigit(c) || c == '_' })
		if !basic.Key(name) {
			return ""
		}
		return name
	case strings.Contains("(),@+-*/<=", s[:1]):
		return s[:1]
	}
	return ""
}

// leading returns the characters that a string begins with and that are of a kind.
func leading(s string, kind func(c rune) bool) string {
	return s[:len(s)-len(strings.TrimLeftFunc(s, kind))]
}

func isDigit(c rune) bool { return '0' <= c && c <= '9' }

func isSmall(c rune) bool { return 'a' <= c && c <= 'z' }

func isNumber(text string) bool { return text != "" && isDigit(rune(text[0])) }

func isName(text string) bool { return text != "" && isSmall(rune(text[0])) }

// operandsOf returns how many operands a function has; 0 if a name is that of no function.
func operandsOf(name string) int {
	switch name {
	case "abs", "good":
		return 1
	case "min", "max":
		return 2
	case "if":
		return 3
	}
	return 0
}

// parser takes tokens from the front on. Once one cannot stand where it stands, the next token stays there, without text, so that no other one is taken.
type parser struct {
	s      string
	next   token
	wrong  bool
	nested int // the depth of the next token
	deep   int // the offset of the first token that is nested too deep; -1 if there is none
	tags   []shifted
}

// parse returns an expression; otherwise the offset of what is wrong with it.
func parse(s string) (expression, int, api.Errno) {
	if len(s) > api.MaxExpr {
		return expression{}, 0, api.ErrLarge
	}
	p := &parser{s: s, next: tokenAt(s, 0), deep: -1}
	root := p.compare()
	switch {
	case p.wrong || p.next.at < len(s):
		return expression{}, p.next.at, api.ErrSyntax
	case p.deep >= 0:
		return expression{}, p.deep, api.ErrLarge
	}
	slices.SortFunc(p.tags, func(x, y shifted) int {
		return cmp.Or(cmp.Compare(x.tag, y.tag), cmp.Compare(x.by, y.by))
	})
	return expression{root, slices.Compact(p.tags)}, 0, api.OK
}

// take goes on to the next token, and returns the text of the one before it.
func (p *parser) take() string {
	if p.nested > api.MaxNested && p.deep < 0 {
		p.deep = p.next.at
	}
	text := p.next.text
	p.next = tokenAt(p.s, p.next.at+len(text))
	return text
}

func (p *parser) fail() {
	p.wrong = true
	p.next.text = ""
}

// expect takes a certain token.
func (p *parser) expect(text string) {
	if p.next.text != text {
		p.fail()
		return
	}
	p.take()
}

// follows reports whether the next token is one of some operators.
func (p *parser) follows(operators string) bool {
	return p.next.text != "" && strings.Contains(operators, p.next.text)
}

// operation takes an operator and its right operand.
func (p *parser) operation(left *node, operand func() *node) *node {
	text := p.take()
	right := operand()
	return &node{text: text, operands: []*node{left, right}}
}

func (p *parser) compare() *node {
	x := p.sum()
	if p.follows("<=") {
		x = p.operation(x, p.sum)
	}
	return x
}

func (p *parser) sum() *node {
	x := p.product()
	for p.follows("+-") {
		x = p.operation(x, p.product)
	}
	return x
}

func (p *parser) product() *node {
	x := p.factor()
	for p.follows("*/") {
		x = p.operation(x, p.factor)
	}
	return x
}

func (p *parser) factor() *node {
	text := p.next.text
	switch {
	case text == "-":
		return p.negation()
	case text == "(":
		return p.enclosed(1)[0]
	case isNumber(text):
		return p.number()
	case operandsOf(text) > 0:
		p.take()
		return &node{text: text, operands: p.enclosed(operandsOf(text))}
	case isName(text):
		return p.tag()
	}
	p.fail()
	return nil
}

func (p *parser) negation() *node {
	p.take()
	p.nested++
	x := p.factor()
	p.nested--
	return &node{text: "-", operands: []*node{x}}
}

// enclosed takes parentheses with a number of expressions in them.
func (p *parser) enclosed(count int) []*node {
	p.expect("(")
	p.nested++
	list := make([]*node, count)
	for i := range list {
		if i > 0 {
			p.expect(",")
		}
		list[i] = p.compare()
	}
	p.expect(")")
	p.nested--
	return list
}

func (p *parser) number() *node {
	text := p.take()
	n, _ := basic.Number(text, maxDigits)
	return &node{text: text, number: n}
}

func (p *parser) tag() *node {
	text := p.take()
	x := shifted{tag: text}
	if p.next.text == "@" {
		p.take()
		digits, by := p.shift()
		x.by = by
		text += "@" + digits
	}
	p.tags = append(p.tags, x)
	return &node{text: text, tag: x}
}

// shift takes the number after an @.
func (p *parser) shift() (string, int) {
	by, ok := basic.Number(p.next.text, maxDigits)
	if !ok || !basic.Within(by, 0, api.MaxShift) {
		p.fail()
		return "", 0
	}
	return p.take(), by
}
