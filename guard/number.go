package guard

import "riparian/api"

// number is the number of a term, if the answer is Yes.
type number struct {
	answer
	n int
}

// operator returns the number that comes of those of its operands; false, if there is none.
type operator func(l []int) (int, bool)

// newOperators returns all operators. None leaves the range of an int, since those of integers in terms are far less.
func newOperators() map[api.Symbol]operator {
	return map[api.Symbol]operator{
		{Name: "+", Arity: 2}: func(l []int) (int, bool) { return l[0] + l[1], true },
		{Name: "-", Arity: 2}: func(l []int) (int, bool) { return l[0] - l[1], true },
		{Name: "*", Arity: 2}: func(l []int) (int, bool) { return l[0] * l[1], true },
		{Name: "-", Arity: 1}: func(l []int) (int, bool) { return -l[0], true },
		{Name: "/", Arity: 2}: divider(func(a, b int) int { return a / b }),
		// What is left of a division has the sign of its dividend, as it has in Go.
		{Name: "mod", Arity: 2}: divider(func(a, b int) int { return a % b }),
	}
}

// divider returns an operator that has no number for the divisor 0.
func divider(divide func(a, b int) int) operator {
	return func(l []int) (int, bool) {
		if l[1] == 0 {
			return 0, false
		}
		return divide(l[0], l[1]), true
	}
}

// calculator finds the numbers of terms in what is known.
type calculator struct {
	*known
	operators map[api.Symbol]operator
}

// newCalculator returns a calculator.
func newCalculator(k *known) calculator { return calculator{k, newOperators()} }

// number returns the number of a term.
func (c calculator) number(t api.Term) number {
	x := calculation{calculator: c}
	n, _ := x.find(t)
	return number{x.answer, n}
}

// calculation finds one number: it has the answers of all terms that it has looked at, so many, together.
type calculation struct {
	answer
	calculator
	looked int
}

// find returns the number of a term, and whether there is one. It throws ErrLimit at the first term that is too much.
func (c *calculation) find(t api.Term) (int, bool) {
	demand(c.looked < api.MaxNodes, api.ErrLimit)
	c.looked++
	switch v := c.value(t).(type) {
	case unbound:
		c.join(waitsFor(variable(int(v))))
		return 0, false
	case integer:
		return int(v), true
	case structure:
		if op, is := c.operators[api.Symbol{Name: v.S, Arity: len(v.L)}]; is {
			return c.apply(op, v.L)
		}
	}
	c.join(yesIf(false))
	return 0, false
}

// apply returns the number that an operator makes of those of its operands, and whether there is one. All operands are looked at.
func (c *calculation) apply(op operator, operands []api.Term) (int, bool) {
	all, l := true, make([]int, len(operands))
	for i, t := range operands {
		n, is := c.find(t)
		all, l[i] = all && is, n
	}
	if !all {
		return 0, false
	}
	n, is := op(l)
	if !is || n < -api.MaxInt || n > api.MaxInt {
		c.join(yesIf(false))
		return 0, false
	}
	return n, true
}
