package guard

import (
	"cmp"

	"riparian/api"
	"riparian/prog"
)

// question is what a test asks of its arguments.
type question func(l []api.Term) answer

// examiner answers tests in what is known.
type examiner struct {
	calculator
	questions map[string]question
}

// newExaminer returns an examiner.
func newExaminer(k *known) examiner {
	x := examiner{calculator: newCalculator(k)}
	x.questions = map[string]question{
		"true":    func([]api.Term) answer { return yesIf(true) },
		"wait":    x.whether(func(any) bool { return true }),
		"integer": x.whether(isOf[integer]),
		"atom":    x.whether(isOf[atom]),
		"string":  x.whether(isOf[text]),
		"vector":  x.whether(isOf[vector]),
		"list":    x.whether(isList),
		"==":      func(l []api.Term) answer { return x.ask(l[0], l[1]) },
		"\\==":    func(l []api.Term) answer { return x.ask(l[0], l[1]).opposite() },
		"=:=":     x.whetherOrder(func(order int) bool { return order == 0 }),
		"=\\=":    x.whetherOrder(func(order int) bool { return order != 0 }),
		"<":       x.whetherOrder(func(order int) bool { return order < 0 }),
		"=<":      x.whetherOrder(func(order int) bool { return order <= 0 }),
		">":       x.whetherOrder(func(order int) bool { return order > 0 }),
		">=":      x.whetherOrder(func(order int) bool { return order >= 0 }),
	}
	return x
}

// test returns the answer of a test.
func (x examiner) test(t api.Term) answer { return x.questions[t.S](t.L) }

// whether asks something of the value of an argument, which has to be bound.
func (x examiner) whether(holds func(v any) bool) question {
	return func(l []api.Term) answer {
		switch v := x.value(l[0]).(type) {
		case unbound:
			return waitsFor(variable(int(v)))
		default:
			return yesIf(holds(v))
		}
	}
}

// whetherOrder asks something of how the numbers of two arguments compare.
func (x examiner) whetherOrder(holds func(order int) bool) question {
	return func(l []api.Term) answer {
		a, b := x.number(l[0]), x.number(l[1])
		out := a.answer
		out.join(b.answer)
		if !out.isYes() {
			return out
		}
		return yesIf(holds(cmp.Compare(a.n, b.n)))
	}
}

// isOf reports whether a value is of a type.
func isOf[T any](v any) bool {
	_, is := v.(T)
	return is
}

// isList reports whether a value is the empty list or a list cell.
func isList(v any) bool {
	switch v := v.(type) {
	case atom:
		return v == api.Nil
	case structure:
		return v.S == api.Cell && len(v.L) == 2
	}
	return false
}

// opposites returns the names of tests, with those of their opposites.
func opposites() map[string]string {
	return map[string]string{
		"==": "\\==", "\\==": "==",
		"=:=": "=\\=", "=\\=": "=:=",
		"<": ">=", ">=": "<",
		"=<": ">", ">": "=<",
	}
}

// Opposite returns the test that is Yes where another one is No, and No where it is Yes, and whether there is one.
func Opposite(t api.Term) (api.Term, bool, api.Errno) {
	if !prog.Test(t) {
		return api.Term{}, false, api.ErrTest
	}
	name, is := opposites()[t.S]
	if !is {
		return api.Term{}, false, api.OK
	}
	out := copyTerm(t)
	out.S = name
	return out, true, api.OK
}
