package expr

import (
	"plantlog/api"
	"plantlog/basic"
)

// beyond is a number that no value has.
const beyond = api.MaxResult + 1

// value is a number with its quality; the number of a Bad one is 0.
type value struct{ number, quality int }

// source returns a value at a moment.
type source func(at int) value

// within returns a value if it is not Bad and from -most to most, and otherwise Bad.
func (v value) within(most int) value {
	if v.quality == api.Bad || !basic.Within(v.number, -most, most) {
		return value{quality: api.Bad}
	}
	return v
}

// compile returns the source of a node; bind returns those of its tags.
func (n *node) compile(bind func(x shifted) source) source {
	if n.tag.tag != "" {
		return bind(n.tag)
	}
	x := make([]source, len(n.operands))
	for i, y := range n.operands {
		x[i] = y.compile(bind)
	}
	switch {
	case len(x) == 0:
		return func(int) value { return value{number: n.number} }
	case n.text == "good":
		return func(at int) value { return value{number: truth(x[0](at).quality == api.Good)} }
	case n.text == "if":
		return choice(x[0], x[1], x[2])
	case len(x) == 1:
		return applyOne(function(n.text), x[0])
	}
	return applyTwo(operator(n.text), x[0], x[1])
}

// choice returns the value of one of two operands, with the quality of the condition if that is worse.
func choice(condition, yes, no source) source {
	return func(at int) value {
		c, operand := condition(at), yes
		if c.number == 0 {
			operand = no
		}
		v := operand(at)
		v.quality = max(v.quality, c.quality)
		return v.within(api.MaxResult)
	}
}

func applyOne(f func(a int) int, x source) source {
	return func(at int) value {
		v := x(at)
		v.number = f(v.number)
		return v
	}
}

func applyTwo(f func(a, b int) int, x, y source) source {
	return func(at int) value {
		v, w := x(at), y(at)
		return value{f(v.number, w.number), max(v.quality, w.quality)}.within(api.MaxResult)
	}
}

// function returns what an operator or a function does with one number. It makes 0 of 0, so that what is Bad stays Bad, and nothing greater of any number.
func function(name string) func(a int) int {
	if name == "abs" {
		return func(a int) int { return max(a, -a) }
	}
	return func(a int) int { return -a }
}

// operator returns what an operator or a function does with two numbers.
func operator(name string) func(a, b int) int {
	switch name {
	case "+":
		return func(a, b int) int { return a + b }
	case "-":
		return func(a, b int) int { return a - b }
	case "*":
		return product
	case "/":
		return quotient
	case "<":
		return func(a, b int) int { return truth(a < b) }
	case "=":
		return func(a, b int) int { return truth(a == b) }
	case "min":
		return func(a, b int) int { return min(a, b) }
	}
	return func(a, b int) int { return max(a, b) }
}

// product asks first whether the product is a result at all, as others may be greater than the greatest int.
func product(a, b int) int {
	if b != 0 && max(a, -a) > api.MaxResult/max(b, -b) {
		return beyond
	}
	return a * b
}

func quotient(a, b int) int {
	if b == 0 {
		return beyond
	}
	return a / b
}

func truth(b bool) int {
	if b {
		return 1
	}
	return 0
}
