package unify

import "riparian/api"

// bindings are those of a valid store.
//
// A store can bind variables in chains as long as itself: ends has how far each one leads, so that a chain is not gone along once and again. An end that is bound later on begins a new chain; so ends stays right when bindings are made and taken back.
type bindings struct {
	b    []api.Term
	ends []int
}

// newBindings returns bindings that use the list.
func newBindings(b []api.Term) bindings {
	ends := make([]int, len(b))
	for v, t := range b {
		ends[v] = v
		if t.Kind == api.KVar {
			ends[v] = ends[t.N]
		}
	}
	return bindings{b, ends}
}

// add adds an unbound variable, and returns its number.
func (s *bindings) add() int {
	v := len(s.b)
	s.b, s.ends = append(s.b, api.Term{}), append(s.ends, v)
	return v
}

// cut takes away all variables from n on.
func (s *bindings) cut(n int) { s.b, s.ends = s.b[:n], s.ends[:n] }

// end returns the variable to which a variable leads: it is unbound, or bound to a term that is no variable.
func (s *bindings) end(v int) int {
	v = s.ends[v]
	for s.b[v].Kind == api.KVar {
		v = s.ends[s.b[v].N]
	}
	return v
}

// value returns the value of a term.
func (s *bindings) value(t api.Term) api.Term {
	if t.Kind != api.KVar {
		return t
	}
	v := s.end(t.N)
	if s.b[v].Kind == 0 {
		return variable(v)
	}
	return s.b[v]
}

// whole returns the whole value of a term, in new memory; false, if it is no term.
func (s *bindings) whole(t api.Term) (api.Term, bool) {
	return (&growth{bindings: s}).grow(t, 1)
}

// growth is a term that is being built out of bindings: so many nodes, up to now.
type growth struct {
	*bindings
	nodes int
}

// grow returns the whole value of what stands at a depth. It gives up at the first node that is too much: whole values can be far larger than terms.
func (g *growth) grow(t api.Term, depth int) (api.Term, bool) {
	g.nodes++
	if g.nodes > api.MaxNodes || depth > api.MaxDeep {
		return api.Term{}, false
	}
	out := g.value(t)
	within := out.L
	out.L = nil
	for _, x := range within {
		made, fits := g.grow(x, depth+1)
		if !fits {
			return api.Term{}, false
		}
		out.L = append(out.L, made)
	}
	return out, true
}

// free returns the unbound variables of the whole values of terms, by their first occurrence. What a variable is bound to is gone through once: behind that it has nothing new.
func (s *bindings) free(l ...api.Term) []int {
	var out []int
	seen := make([]bool, len(s.b))
	stack := [][]api.Term{l}
	for len(stack) > 0 {
		last := len(stack) - 1
		if len(stack[last]) == 0 {
			stack = stack[:last]
			continue
		}
		t := stack[last][0]
		stack[last] = stack[last][1:]
		if t.Kind == api.KVar {
			v := s.end(t.N)
			if seen[v] {
				continue
			}
			seen[v] = true
			t = s.b[v]
			if t.Kind == 0 {
				out = append(out, v)
			}
		}
		stack = append(stack, t.L)
	}
	return out
}
