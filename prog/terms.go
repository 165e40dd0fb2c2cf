package prog

import (
	"riparian/api"
	"riparian/term"
)

// atom returns the atom with a name.
func atom(name string) api.Term { return api.Term{Kind: api.KAtom, S: name} }

// structure returns a structure of these arguments; an atom, if there are none.
func structure(name string, arguments ...api.Term) api.Term {
	if len(arguments) == 0 {
		return atom(name)
	}
	return api.Term{Kind: api.KFun, S: name, L: arguments}
}

// isName reports whether a string is a name.
func isName(s string) bool { return term.Check(atom(s)) == api.OK }

// symbolOf returns the symbol of a term; false, if it is neither an atom nor a structure.
func symbolOf(t api.Term) (api.Symbol, bool) {
	if t.Kind != api.KAtom && t.Kind != api.KFun {
		return api.Symbol{}, false
	}
	return api.Symbol{Name: t.S, Arity: len(t.L)}, true
}

// has reports whether a term has a symbol.
func has(t api.Term, name string, arity int) bool {
	s, is := symbolOf(t)
	return is && s == api.Symbol{Name: name, Arity: arity}
}

// isTrue reports whether a term is the atom true.
func isTrue(t api.Term) bool { return has(t, "true", 0) }

// isIntegerTo reports whether a term is an integer from 0 to a greatest one.
func isIntegerTo(t api.Term, most int) bool {
	return t.Kind == api.KInt && t.N >= 0 && t.N <= most
}

// isPrior reports whether a term is something @ a priority.
func isPrior(t api.Term) bool { return has(t, "@", 2) && isIntegerTo(t.L[1], api.MaxPrio) }

// every reports whether something is so of each term.
func every(l []api.Term, is func(api.Term) bool) bool {
	for _, t := range l {
		if !is(t) {
			return false
		}
	}
	return true
}

// below reports whether all variables of a term are less than n.
func below(t api.Term, n int) bool {
	if t.Kind == api.KVar {
		return t.N < n
	}
	return every(t.L, func(x api.Term) bool { return below(x, n) })
}

// copyTerm returns the term in memory of its own.
func copyTerm(t api.Term) api.Term {
	t.L = copyTerms(t.L)
	return t
}

// copyTerms returns the terms in memory of their own.
func copyTerms(l []api.Term) []api.Term { return copyEach(l, copyTerm) }

// copyEach returns a new list with what is made of each element.
func copyEach[T, U any](l []T, made func(T) U) []U {
	if len(l) == 0 {
		return nil
	}
	out := make([]U, len(l))
	for i, x := range l {
		out[i] = made(x)
	}
	return out
}
