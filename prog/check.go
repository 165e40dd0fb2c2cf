// Package prog has programs of guarded clauses. See shared/doc/04-prog.md.
package prog

import (
	"slices"

	"riparian/api"
	"riparian/term"
)

// CheckClause returns ErrClause unless c is a clause for a head with so many arguments.
func CheckClause(c api.Clause, arity int) api.Errno {
	if arity < 0 || arity > api.MaxArity {
		return api.ErrArg
	}
	if !newWords().isClause(c, arity) {
		return api.ErrClause
	}
	return api.OK
}

// Check returns ErrProg unless p is a program.
func Check(p api.Program) api.Errno {
	if !newWords().isProgram(p) {
		return api.ErrProg
	}
	return api.OK
}

// CheckQuery returns ErrProg unless q is a query of the program p.
func CheckQuery(p api.Program, q api.Query) api.Errno {
	w := newWords()
	if !w.isProgram(p) || !w.isQuery(q) || !w.callsOnly(q.Goals, newIndex(p)) {
		return api.ErrProg
	}
	return api.OK
}

// Find returns the index of the procedure with a symbol, -1 if there is none.
func Find(p api.Program, s api.Symbol) (int, api.Errno) {
	if e := Check(p); e != api.OK {
		return 0, e
	}
	return slices.IndexFunc(p.Procs, func(x api.Proc) bool { return symbolOfProc(x) == s }), api.OK
}

// tally counts the nodes of terms, and the variables of those that are normal.
type tally struct{ nodes, vars int }

// add adds a term; false, if it is not normal behind those that were added.
func (x *tally) add(t api.Term) bool {
	x.nodes++
	if t.Kind == api.KVar && t.N > x.vars {
		return false
	}
	if t.Kind == api.KVar {
		x.vars = max(x.vars, t.N+1)
	}
	return every(t.L, x.add)
}

// areOwn reports whether terms together, with so many variables, can be all those of a clause or of a query.
func areOwn(l []api.Term, vars int) bool {
	if vars > api.MaxOwn || term.CheckAll(l) != api.OK {
		return false
	}
	var all tally
	return every(l, all.add) && all.vars == vars && all.nodes <= api.MaxClause
}

// isClause reports whether c is a clause for so many arguments, from 0 to 16.
func (w words) isClause(c api.Clause, arity int) bool {
	if c.Mark < api.MarkNone || c.Mark > api.MarkLate || len(c.Head) != arity || len(c.Guard) > api.MaxGuard || len(c.Body) > api.MaxBody {
		return false
	}
	if !areOwn(slices.Concat(c.Head, c.Guard, c.Body), c.Vars) {
		return false
	}
	var head tally
	every(c.Head, head.add)
	// The clause is normal: the head has the least variables.
	inHead := func(t api.Term) bool { return below(t, head.vars) }
	return every(c.Guard, w.test) && every(c.Guard, inHead) && every(c.Body, w.isGoal)
}

// isQuery reports whether q is a query of some program.
func (w words) isQuery(q api.Query) bool {
	return len(q.Goals) <= api.MaxQuery && areOwn(q.Goals, q.Vars) && every(q.Goals, w.isGoal)
}

// isProgram reports whether p is a program, but that it can also call other procedures.
func (w words) isProgram(p api.Program, others ...api.Symbol) bool {
	if len(p.Procs) > api.MaxProcs {
		return false
	}
	known := newIndex(p)
	if len(known) != len(p.Procs) {
		return false
	}
	for _, s := range others {
		known[s] = -1
	}
	for _, x := range p.Procs {
		if !w.isProc(x, known) {
			return false
		}
	}
	return true
}

// isProc reports whether x can be a procedure of a program in which these can be called.
func (w words) isProc(x api.Proc, known index) bool {
	if !isName(x.Name) || x.Arity < 0 || x.Arity > api.MaxArity || w.reserved(symbolOfProc(x)) || len(x.Clauses) > api.MaxClauses {
		return false
	}
	for _, c := range x.Clauses {
		if !w.isClause(c, x.Arity) || !w.callsOnly(c.Body, known) {
			return false
		}
	}
	return true
}

// callsOnly reports whether goals call nothing but these procedures.
func (g goals) callsOnly(l []api.Term, known index) bool {
	return every(l, func(t api.Term) bool {
		s, is := g.call(t)
		if !is {
			return true
		}
		_, there := known[s]
		return there
	})
}
