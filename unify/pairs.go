package unify

import "riparian/api"

// equation says that two terms are the same.
type equation struct{ a, b api.Term }

// equations returns that each variable that is bound is the same as its binding.
func equations(s api.Store) []equation {
	var out []equation
	for v, t := range s.B {
		if t.Kind != 0 {
			out = append(out, equation{variable(v), t})
		}
	}
	return out
}

// pending are the pairs that wait, the next ones last: the elements of two terms, as many on either side.
type pending []struct{ a, b []api.Term }

// push puts the elements of two terms ahead of all others.
func (p *pending) push(a, b []api.Term) {
	*p = append(*p, struct{ a, b []api.Term }{a, b})
}

// next takes the next pair; false, if there is none.
func (p *pending) next() (a, b api.Term, more bool) {
	for last := len(*p) - 1; last >= 0; last-- {
		top := &(*p)[last]
		if len(top.a) > 0 {
			a, b = top.a[0], top.b[0]
			top.a, top.b = top.a[1:], top.b[1:]
			return a, b, true
		}
		*p = (*p)[:last]
	}
	return api.Term{}, api.Term{}, false
}

// walk goes through both sides of an equation, pair by pair, up to the first difference. Where two values differ, of which one at least is an unbound variable, join says whether they are the same now.
func (s *bindings) walk(x equation, join func(a, b api.Term) bool) (bool, api.Errno) {
	var waiting pending
	waiting.push([]api.Term{x.a}, []api.Term{x.b})
	counted, same := 0, true
pairs:
	for {
		a, b, more := waiting.next()
		if !more {
			break
		}
		if counted == api.MaxWork {
			return false, api.ErrLimit
		}
		counted++
		if sameVar(a, b) {
			continue
		}
		a, b = s.value(a), s.value(b)
		switch {
		case sameVar(a, b):
		case a.Kind == api.KVar || b.Kind == api.KVar:
			if !join(a, b) {
				same = false
				break pairs
			}
		case !sameTop(a, b):
			same = false
			break pairs
		default:
			waiting.push(a.L, b.L)
		}
	}
	return same, api.OK
}

// compare reports whether both sides of an equation have equal whole values.
func (s *bindings) compare(x equation) (bool, api.Errno) {
	return s.walk(x, func(a, b api.Term) bool { return false })
}

// sameVar reports whether two terms are the same variable.
func sameVar(a, b api.Term) bool {
	return a.Kind == api.KVar && b.Kind == api.KVar && a.N == b.N
}

// sameTop reports whether two terms are equal but for what stands within them.
func sameTop(a, b api.Term) bool {
	return a.Kind == b.Kind && a.N == b.N && a.S == b.S && len(a.L) == len(b.L)
}
