package guard

import (
	"slices"

	"riparian/api"
	"riparian/term"
)

// variable returns the variable v.
func variable(v int) api.Term { return api.Term{Kind: api.KVar, N: v} }

// areOver reports whether trees are terms together all of whose variables are less than n.
func areOver(l []api.Term, n int) bool {
	vars, e := term.Vars(l)
	return e == api.OK && !slices.ContainsFunc(vars, func(v int) bool { return v >= n })
}

// appendVars appends the variables of terms, as often as they occur.
func appendVars(out []int, l []api.Term) []int {
	for _, t := range l {
		if t.Kind == api.KVar {
			out = append(out, t.N)
		}
		out = appendVars(out, t.L)
	}
	return out
}

// sameTop reports whether two terms are equal but for what stands within them.
func sameTop(a, b api.Term) bool {
	return a.Kind == b.Kind && a.N == b.N && a.S == b.S && len(a.L) == len(b.L)
}

// copyTerm returns the term in memory of its own.
func copyTerm(t api.Term) api.Term {
	t.L = copyEach(t.L)
	return t
}

// copyEach returns terms in memory of their own.
func copyEach(l []api.Term) []api.Term {
	if len(l) == 0 {
		return nil
	}
	out := make([]api.Term, len(l))
	for i, t := range l {
		out[i] = copyTerm(t)
	}
	return out
}
