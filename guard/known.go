package guard

import (
	"slices"

	"riparian/api"
	"riparian/unify"
)

// What the value of a term can be.
type (
	unbound   int // a variable
	integer   int
	atom      string
	text      string
	structure api.Term
	vector    []api.Term
)

// known is what is known of variables: those of a store, and behind them those of a clause, which are bound to their places.
type known struct {
	s api.Store
	// values are the values of all of them; the zero Term, if that is the variable itself, or if one of a clause has no place.
	values []api.Term
	// solver has the first ones of all of them, so many. It is opened where it is asked for at first: most calls look at values alone.
	solver *unify.Solver
	solved int
}

// look returns what is known in a store of which terms are looked at; it throws ErrStore, or ErrTerm.
func look(s api.Store, l ...api.Term) *known {
	demand(unify.Check(s) == api.OK, api.ErrStore)
	for i := range l {
		demand(areOver(l[i:i+1], len(s.B)), api.ErrTerm)
	}
	out := &known{s: s, values: make([]api.Term, len(s.B), len(s.B)+api.MaxOwn)}
	for v, t := range s.B {
		// A variable is bound to a lesser one, whose value stands there already.
		out.values[v] = out.end(t)
	}
	return out
}

// end returns the value of a term.
func (k *known) end(t api.Term) api.Term {
	if t.Kind == api.KVar && k.values[t.N].Kind != 0 {
		return k.values[t.N]
	}
	return t
}

// value returns the value of a term as a value of one of the types above.
func (k *known) value(t api.Term) any {
	t = k.end(t)
	switch t.Kind {
	case api.KVar:
		return unbound(t.N)
	case api.KInt:
		return integer(t.N)
	case api.KAtom:
		return atom(t.S)
	case api.KStr:
		return text(t.S)
	case api.KVec:
		return vector(t.L)
	}
	return structure(t)
}

// enter adds the variables of a clause, with their places (the zero Term, if they have none).
func (k *known) enter(places []api.Term) { k.values = append(k.values, places...) }

// leave takes them away.
func (k *known) leave() {
	k.values = k.values[:len(k.s.B)]
	if k.solver != nil {
		k.solver.Back(0)
		k.solved = len(k.values)
	}
}

// ask returns what unify.Ask says of two terms. What is the same is unified without a change; what is not waits for all of its variables.
func (k *known) ask(a, b api.Term) answer {
	w := k.opened()
	mark := w.Mark()
	can, e := w.Unify(a, b)
	demand(e == api.OK, e)
	same := w.Mark() == mark
	w.Back(mark)
	if can && !same {
		return waitsFor(a, b)
	}
	return yesIf(can)
}

// opened returns a solver that has all variables.
func (k *known) opened() *unify.Solver {
	if k.solver == nil {
		k.solver, _ = unify.Open(k.s)
		k.solved = len(k.s.B)
	}
	for ; k.solved < len(k.values); k.solved++ {
		k.solver.Var()
		if place := k.values[k.solved]; place.Kind != 0 {
			k.solver.Unify(variable(k.solved), place)
		}
	}
	return k.solver
}

// told returns an answer as it is told, with the variables it waits for.
func (k *known) told(a answer) (int, []int) {
	switch {
	case a.no:
		return api.No, nil
	case a.isYes():
		return api.Yes, nil
	}
	return api.Waits, k.free(a.on)
}

// free returns the unbound variables of the whole values of terms, by increasing numbers. Variables wait in a list, since they can lead to others far deeper than terms are.
func (k *known) free(l []api.Term) []int {
	var out []int
	seen := make([]bool, len(k.values))
	left := appendVars(nil, l)
	for len(left) > 0 {
		v := left[len(left)-1]
		left = left[:len(left)-1]
		if seen[v] {
			continue
		}
		seen[v] = true
		if x := k.end(variable(v)); x.Kind == api.KVar && x.N == v {
			out = append(out, v)
		} else {
			left = appendVars(left, []api.Term{x})
		}
	}
	slices.Sort(out)
	return out
}
