package prog

import (
	"cmp"
	"slices"

	"riparian/api"
	"riparian/term"
)

// Same reports whether two programs are equal.
func Same(a, b api.Program) bool { return slices.EqualFunc(a.Procs, b.Procs, sameProc) }

// sameProc reports whether all fields of two procedures are equal.
func sameProc(a, b api.Proc) bool {
	return symbolOfProc(a) == symbolOfProc(b) && slices.EqualFunc(a.Clauses, b.Clauses, sameClause)
}

// sameClause reports whether all fields of two clauses are equal.
func sameClause(a, b api.Clause) bool {
	return a.Mark == b.Mark && a.Vars == b.Vars && sameTerms(a.Head, b.Head) && sameTerms(a.Guard, b.Guard) && sameTerms(a.Body, b.Body)
}

// sameTerms reports whether all trees of two lists are equal.
func sameTerms(a, b []api.Term) bool { return slices.EqualFunc(a, b, term.Same) }

// Sorted returns the program with its procedures sorted.
func Sorted(p api.Program) (api.Program, api.Errno) {
	if e := Check(p); e != api.OK {
		return api.Program{}, e
	}
	out := copyEach(p.Procs, copyProc)
	slices.SortFunc(out, func(a, b api.Proc) int {
		return cmp.Or(cmp.Compare(a.Name, b.Name), cmp.Compare(a.Arity, b.Arity))
	})
	return api.Program{Procs: out}, api.OK
}

// Normal returns a clause with its variables numbered anew.
func Normal(c api.Clause) (api.Clause, api.Errno) {
	out, is := newWords().normal(c)
	if !is {
		return api.Clause{}, api.ErrClause
	}
	return out, api.OK
}

// normal returns a clause with its variables numbered anew; false, if that is no clause.
func (w words) normal(c api.Clause) (api.Clause, bool) {
	all, vars, e := term.Normal(slices.Concat(c.Head, c.Guard, c.Body))
	if e != api.OK {
		return api.Clause{}, false
	}
	guard := len(c.Head)
	body := guard + len(c.Guard)
	// Each list has memory of its own.
	out := api.Clause{Mark: c.Mark, Vars: len(vars), Head: slices.Clone(all[:guard]), Guard: slices.Clone(all[guard:body]), Body: slices.Clone(all[body:])}
	if guard > api.MaxArity || !w.isClause(out, guard) {
		return api.Clause{}, false
	}
	return out, true
}

// Fresh returns head, guard and body of a clause with variables from a number on.
func Fresh(c api.Clause, from int) (api.Clause, api.Errno) {
	if from < 0 || from >= api.MaxVar {
		return api.Clause{}, api.ErrArg
	}
	// A head that is too long makes no wrong argument here: c is no clause.
	if CheckClause(c, len(c.Head)) != api.OK {
		return api.Clause{}, api.ErrClause
	}
	if c.Vars > api.MaxVar-from {
		return api.Clause{}, api.ErrArg
	}
	shift := func(t api.Term) api.Term {
		out, _ := term.Shift(t, from)
		return out
	}
	return changeClause(c, shift), api.OK
}

// changeClause returns a clause with what is made of each of its terms.
func changeClause(c api.Clause, made func(api.Term) api.Term) api.Clause {
	return api.Clause{Mark: c.Mark, Vars: c.Vars, Head: copyEach(c.Head, made), Guard: copyEach(c.Guard, made), Body: copyEach(c.Body, made)}
}

// copyClause returns the clause in memory of its own.
func copyClause(c api.Clause) api.Clause { return changeClause(c, copyTerm) }

// copyProc returns the procedure in memory of its own.
func copyProc(x api.Proc) api.Proc {
	x.Clauses = copyEach(x.Clauses, copyClause)
	return x
}
