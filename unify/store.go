package unify

import (
	"riparian/api"
	"riparian/term"
)

// checkOver returns ErrStore unless s is a valid store, and then ErrTerm unless each of some trees is a term over it.
func checkOver(s api.Store, l ...api.Term) api.Errno {
	if e := Check(s); e != api.OK {
		return e
	}
	for _, t := range l {
		if !isOver(t, len(s.B)) {
			return api.ErrTerm
		}
	}
	return api.OK
}

// checkBoth returns ErrStore unless both stores are valid.
func checkBoth(s, u api.Store) api.Errno {
	if e := Check(s); e != api.OK {
		return e
	}
	return Check(u)
}

// isOver reports whether a tree is a term over a store of n variables.
func isOver(t api.Term, n int) bool { return term.Check(t) == api.OK && below(t, n) }

// below reports whether all variables of a term are less than n.
func below(t api.Term, n int) bool {
	if t.Kind == api.KVar {
		return t.N < n
	}
	for _, x := range t.L {
		if !below(x, n) {
			return false
		}
	}
	return true
}

// isBinding reports whether a tree can stand for the variable v in a store of n variables, cycles aside.
func isBinding(t api.Term, v, n int) bool {
	if isNone(t) {
		return true
	}
	return isOver(t, n) && (t.Kind != api.KVar || t.N < v)
}

// isNone reports whether a tree is what stands for an unbound variable.
func isNone(t api.Term) bool { return t.Kind == 0 && t.N == 0 && t.S == "" && len(t.L) == 0 }

// What a search knows of a variable: nothing; that it is looked at; that no cycle can be reached from it.
const (
	stateNew byte = iota
	stateOpen
	stateDone
)

// search looks for cycles. It keeps a stack of its own, since variables can depend on each other far deeper than terms are.
type search struct {
	b     []api.Term
	state []byte
}

// newSearch returns a search in bindings whose variables are in range.
func newSearch(b []api.Term) search { return search{b, make([]byte, len(b))} }

// findsCycle reports whether a cycle can be reached from a variable. A variable can wait in the stack several times; one that is open lies on top again only when all that it depends on is done.
func (x search) findsCycle(v int) bool {
	stack := []int{v}
	for len(stack) > 0 {
		last := len(stack) - 1
		top := stack[last]
		if x.state[top] != stateNew {
			x.state[top] = stateDone
			stack = stack[:last]
			continue
		}
		x.state[top] = stateOpen
		stack = appendVars(stack, x.b[top])
		for _, next := range stack[last+1:] {
			if x.state[next] == stateOpen {
				return true
			}
		}
	}
	return false
}

// appendVars appends the variables of a term, as often as they occur.
func appendVars(out []int, t api.Term) []int {
	if t.Kind == api.KVar {
		return append(out, t.N)
	}
	for _, x := range t.L {
		out = appendVars(out, x)
	}
	return out
}

// variable returns the variable v.
func variable(v int) api.Term { return api.Term{Kind: api.KVar, N: v} }

// copyTerm returns the term in memory of its own.
func copyTerm(t api.Term) api.Term {
	t.L = copyLonger(t.L, len(t.L))
	return t
}

// copyLonger returns n terms in memory of their own: those of a list, and zero ones behind.
func copyLonger(l []api.Term, n int) []api.Term {
	if n == 0 {
		return nil
	}
	out := make([]api.Term, n)
	for i, t := range l {
		out[i] = copyTerm(t)
	}
	return out
}

// longer returns a new list of at least n terms: those of a list, and zero ones behind.
func longer(l []api.Term, n int) []api.Term {
	out := make([]api.Term, max(len(l), n))
	copy(out, l)
	return out
}
