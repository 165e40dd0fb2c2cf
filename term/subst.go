package term

import "riparian/api"

// substitution is a list that was found to be one, with the extents of its terms.
type substitution struct {
	terms   []api.Term
	extents []extent
}

// Subst returns t with terms in the place of its variables.
func Subst(t api.Term, l []api.Term) (api.Term, api.Errno) {
	if e := checkEach(t); e != api.OK {
		return api.Term{}, e
	}
	s, ok := newSubstitution(l)
	if !ok {
		return api.Term{}, api.ErrArg
	}
	if !s.extentOf(t).fits() {
		return api.Term{}, api.ErrLimit
	}
	return s.apply(t), api.OK
}

// Compose returns what is put in the place of variables by a, and then by b.
func Compose(a, b []api.Term) ([]api.Term, api.Errno) {
	first, ok := newSubstitution(a)
	if !ok {
		return nil, api.ErrArg
	}
	second, ok := newSubstitution(b)
	if !ok {
		return nil, api.ErrArg
	}
	// All extents are looked at ahead, lest much be built in vain.
	for _, t := range a {
		if !second.extentOf(t).fits() {
			return nil, api.ErrLimit
		}
	}
	out := make([]api.Term, max(len(a), len(b)))
	for i := range out {
		t := second.apply(first.image(i))
		if !isVar(t, i) {
			out[i] = t
		}
	}
	return out, api.OK
}

// Shift returns t with all variables greater by n.
func Shift(t api.Term, n int) (api.Term, api.Errno) {
	if e := checkEach(t); e != api.OK {
		return api.Term{}, e
	}
	for _, node := range nodes(t) {
		// n can be near the ends of int: it is compared, not added.
		if node.Kind == api.KVar && (n < -node.N || n >= api.MaxVar-node.N) {
			return api.Term{}, api.ErrArg
		}
	}
	return rename(t, func(v int) int { return v + n }), api.OK
}

// newSubstitution returns a list as a substitution; false, if it is none.
func newSubstitution(l []api.Term) (substitution, bool) {
	if len(l) > api.MaxVar {
		return substitution{}, false
	}
	s := substitution{l, make([]extent, len(l))}
	for i, t := range l {
		if isFree(t) {
			continue
		}
		size, ok := measure(t)
		if !ok {
			return substitution{}, false
		}
		s.extents[i] = size
	}
	return s, true
}

// isFree reports whether an element of a substitution puts nothing in the place of its variable.
func isFree(t api.Term) bool { return t.Kind == 0 && t.N == 0 && t.S == "" && len(t.L) == 0 }

// isVar reports whether a term is the variable v.
func isVar(t api.Term, v int) bool { return t.Kind == api.KVar && t.N == v }

// puts reports whether s puts something in the place of a term, which it does with variables alone.
func (s substitution) puts(t api.Term) bool {
	return t.Kind == api.KVar && t.N < len(s.terms) && s.terms[t.N].Kind != 0
}

// image returns what s makes of the variable v.
func (s substitution) image(v int) api.Term {
	t := api.Term{Kind: api.KVar, N: v}
	if s.puts(t) {
		return s.terms[v]
	}
	return t
}

// extentOf returns the extent of what s makes of a term.
func (s substitution) extentOf(t api.Term) extent {
	if s.puts(t) {
		return s.extents[t.N]
	}
	size := extent{nodes: 1}
	for _, x := range t.L {
		within := s.extentOf(x)
		size.nodes += within.nodes
		size.depth = max(size.depth, within.depth)
	}
	size.depth++
	return size
}

// apply returns what s makes of a term, in new memory.
func (s substitution) apply(t api.Term) api.Term {
	if s.puts(t) {
		return copyTerm(s.terms[t.N])
	}
	t.L = copyEach(t.L, s.apply)
	return t
}

// rename returns a term with other numbers for its variables, in new memory.
func rename(t api.Term, number func(int) int) api.Term {
	if t.Kind == api.KVar {
		t.N = number(t.N)
	}
	t.L = copyEach(t.L, func(x api.Term) api.Term { return rename(x, number) })
	return t
}
