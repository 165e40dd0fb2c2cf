package guard

import (
	"slices"

	"riparian/api"
	"riparian/prog"
	"riparian/term"
)

// taking is the answer of a clause, the variables it waits for, and, with Yes, what it binds.
type taking struct {
	is    int
	waits []int
	binds []api.Term
}

// taker answers clauses for arguments.
type taker struct {
	examiner
	args []api.Term
}

// newTaker returns a taker for arguments in a store; it throws ErrStore, or ErrTerm.
func newTaker(s api.Store, args []api.Term) taker { return taker{newExaminer(look(s, args...)), args} }

// checkRoom throws ErrLimit unless the variables of any clause can stand behind those of the store.
func (x taker) checkRoom() {
	demand(len(x.values) <= api.MaxVar-api.MaxOwn, api.ErrLimit)
}

// take returns the answer of a clause.
func (x taker) take(c api.Clause) taking {
	m := x.match(c.Head, x.args)
	places := m.list(c.Vars)
	x.enter(places)
	for _, t := range c.Guard {
		if isPlaced(t, places) {
			m.join(x.ownTest(t))
		}
	}
	var out taking
	out.is, out.waits = x.told(m.answer)
	x.leave()
	if out.is == api.Yes {
		out.binds = copyEach(places)
	}
	return out
}

// isPlaced reports whether all variables of a test have places. One that has none stands under a variable, or within what differs: then the head waits for that variable already, or answers No.
func isPlaced(t api.Term, places []api.Term) bool {
	return !slices.ContainsFunc(appendVars(nil, t.L), func(v int) bool { return places[v].Kind == 0 })
}

// ownTest returns the answer of a test of the variables of a clause, which stand behind those of the store.
func (x taker) ownTest(t api.Term) answer {
	own, _ := term.Shift(t, len(x.s.B))
	return x.test(own)
}

// isFor reports whether c is a clause for arguments.
func isFor(c api.Clause, args []api.Term) bool { return prog.CheckClause(c, len(args)) == api.OK }

// takeAll returns the answer of each clause of a procedure, by itself.
func takeAll(s api.Store, args []api.Term, p api.Proc) []taking {
	x := newTaker(s, args)
	demand(len(p.Clauses) <= api.MaxClauses && len(args) == p.Arity, api.ErrArg)
	for _, c := range p.Clauses {
		demand(isFor(c, args), api.ErrClause)
	}
	x.checkRoom()
	var out []taking
	for _, c := range p.Clauses {
		out = append(out, x.take(c))
	}
	return out
}

// call is the answer of a call, the clauses that can be taken, and the variables it waits for.
type call struct {
	open  []int
	is    int
	waits []int
}

// newCall returns the answer of a call of a procedure whose clauses have these answers.
func newCall(p api.Proc, l []taking) call {
	var out call
	// Whether all clauses in segments ahead answer No, and whether all clauses up to now do.
	ahead, all := true, true
	for i, x := range l {
		if p.Clauses[i].Mark == api.MarkElse {
			ahead = all
		}
		if ahead && x.is == api.Yes {
			out.open = append(out.open, i)
		}
		all = all && x.is == api.No
		out.waits = append(out.waits, x.waits...)
	}
	switch {
	case len(out.open) > 0:
		return call{out.open, api.Yes, nil}
	case all:
		return call{nil, api.No, nil}
	}
	slices.Sort(out.waits)
	return call{nil, api.Waits, slices.Compact(out.waits)}
}
