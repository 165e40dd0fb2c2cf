package guard

import "riparian/api"

// matching is patterns that are laid on arguments: the answers of it, together, and the places of their variables; the zero Term for one that occurs, but has none.
type matching struct {
	answer
	*known
	places map[int]api.Term
}

// match lays patterns on as many arguments.
func (k *known) match(patterns, args []api.Term) *matching {
	m := &matching{known: k, places: map[int]api.Term{}}
	var lay func(p, a api.Term)
	lay = func(p, a api.Term) {
		v := m.end(a)
		switch {
		case p.Kind == api.KVar:
			m.meet(p.N, v)
		case v.Kind == api.KVar:
			m.join(waitsFor(v))
			m.pass(p)
		case !sameTop(p, v):
			m.join(yesIf(false))
			m.pass(p)
		default:
			for i, x := range p.L {
				lay(x, v.L[i])
			}
		}
	}
	for i, p := range patterns {
		lay(p, args[i])
	}
	return m
}

// meet looks at the next occurrence of a variable, which is laid on a value, or, with the zero Term, on nothing. The first one says the place, and others that are laid have to be the same.
func (m *matching) meet(v int, value api.Term) {
	place, is := m.places[v]
	switch {
	case !is:
		m.places[v] = value
	case place.Kind != 0 && value.Kind != 0:
		m.join(m.ask(place, value))
	}
}

// pass looks at the occurrences of variables in a pattern of which nothing is laid on anything.
func (m *matching) pass(p api.Term) {
	for _, v := range appendVars(nil, []api.Term{p}) {
		m.meet(v, api.Term{})
	}
}

// count returns how many variables there are up to the greatest one of the patterns.
func (m *matching) count() int {
	out := 0
	for v := range m.places {
		out = max(out, v+1)
	}
	return out
}

// list returns the places of n variables; the zero Term for those that have none.
func (m *matching) list(n int) []api.Term {
	out := make([]api.Term, n)
	for v, place := range m.places {
		out[v] = place
	}
	return out
}
