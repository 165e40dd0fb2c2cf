package unify

import "riparian/api"

// Solver is a store that is changed in place, and can be taken back.
type Solver struct {
	bindings
	trail []change
}

// change is one of a solver's: the variable that was bound, or added, and how that is undone.
type change struct {
	of   int
	undo func()
}

// newSolver returns a solver that uses the list of a valid store's bindings.
func newSolver(b []api.Term) *Solver { return &Solver{bindings: newBindings(b)} }

// Open returns a solver with the bindings of s.
func Open(s api.Store) (*Solver, api.Errno) {
	if e := Check(s); e != api.OK {
		return nil, e
	}
	return newSolver(copyLonger(s.B, len(s.B))), api.OK
}

// Var adds an unbound variable, and returns its number.
func (w *Solver) Var() (int, api.Errno) {
	if w == nil {
		return 0, api.ErrArg
	}
	if len(w.b) >= api.MaxVar {
		return 0, api.ErrLimit
	}
	v := w.add()
	w.note(v, func() { w.cut(v) })
	return v, api.OK
}

// Value is Value in the store as it is.
func (w *Solver) Value(t api.Term) (api.Term, api.Errno) {
	if w == nil {
		return api.Term{}, api.ErrArg
	}
	if !isOver(t, len(w.b)) {
		return api.Term{}, api.ErrTerm
	}
	return copyTerm(w.value(t)), api.OK
}

// Unify binds what Unify binds, and reports whether it did; if not, nothing is changed.
func (w *Solver) Unify(a, b api.Term) (bool, api.Errno) {
	if w == nil {
		return false, api.ErrArg
	}
	if !isOver(a, len(w.b)) || !isOver(b, len(w.b)) {
		return false, api.ErrTerm
	}
	return w.equate(equation{copyTerm(a), copyTerm(b)})
}

// Mark returns a mark of the store as it is.
func (w *Solver) Mark() int {
	if w == nil {
		return 0
	}
	return len(w.trail)
}

// Back makes the store what it was at a mark.
func (w *Solver) Back(mark int) api.Errno {
	if w == nil || mark < 0 || mark > len(w.trail) {
		return api.ErrArg
	}
	w.undo(mark)
	return api.OK
}

// Store returns the store as it is.
func (w *Solver) Store() api.Store {
	if w == nil {
		return api.Store{}
	}
	return api.Store{B: copyLonger(w.b, len(w.b))}
}

// equate unifies both sides of each equation, one after the other; if it fails, or with an error, nothing is changed. It binds parts of the terms themselves.
//
// The occurs check is made once, at the end: a binding that closes a cycle stays, and with it the cycle; up to the end values are found all the same, and pairs are counted, so that also terms without an end are left. So there is a cycle at the end exactly if the check would have failed at some binding, and then what came behind that tells nothing.
func (w *Solver) equate(l ...equation) (bool, api.Errno) {
	mark := len(w.trail)
	same, e := w.joinAll(l)
	if (same || e != api.OK) && w.hasCycle(mark) {
		same, e = false, api.OK
	}
	if !same {
		w.undo(mark)
	}
	return same, e
}

// joinAll unifies without the occurs check. It leaves what it has bound, also where it fails.
func (w *Solver) joinAll(l []equation) (bool, api.Errno) {
	for _, x := range l {
		same, e := w.walk(x, w.join)
		if e != api.OK || !same {
			return false, e
		}
	}
	return true, api.OK
}

// join binds one of two values to the other one: the greater one of two variables.
func (w *Solver) join(a, b api.Term) bool {
	if a.Kind != api.KVar || b.Kind == api.KVar && b.N > a.N {
		a, b = b, a
	}
	w.bind(a.N, b)
	return true
}

// bind binds an unbound variable.
func (w *Solver) bind(v int, t api.Term) {
	w.b[v] = t
	w.note(v, func() { w.b[v] = api.Term{} })
}

// note puts a change on the trail.
func (w *Solver) note(v int, undo func()) { w.trail = append(w.trail, change{v, undo}) }

// undo undoes all changes from a mark on, the latest first.
func (w *Solver) undo(mark int) {
	for last := len(w.trail) - 1; last >= mark; last-- {
		w.trail[last].undo()
		w.trail[last] = change{}
	}
	w.trail = w.trail[:mark]
}

// hasCycle reports whether the changes from a mark on have closed a cycle: it goes through a variable that they bound.
func (w *Solver) hasCycle(mark int) bool {
	changes := w.trail[mark:]
	if len(changes) == 0 {
		return false
	}
	look := newSearch(w.b)
	for _, c := range changes {
		if look.findsCycle(c.of) {
			return true
		}
	}
	return false
}
