package prog

import (
	"riparian/api"
	"riparian/term"
)

// wrong is what is thrown where terms are no program: the error, and the index of the term at which it is told.
type wrong struct {
	at int
	e  api.Errno
}

// clauseReader reads the clauses that terms are, one term after the other.
type clauseReader struct {
	words
	at int
}

// fail throws that the term that is being read is not as it should be.
func (r *clauseReader) fail() { panic(wrong{r.at, api.ErrClause}) }

// clause reads a clause with a mark, and the symbol of its procedure.
func (r *clauseReader) clause(t api.Term, mark int) (api.Symbol, api.Clause) {
	head, guard, body := clauseParts(t)
	s, is := symbolOf(head)
	if !is {
		r.fail()
	}
	out, is := r.normal(api.Clause{Mark: mark, Head: head.L, Guard: guard, Body: body})
	if !is {
		r.fail()
	}
	return s, out
}

// clauseParts returns the head of what can be a clause, and the terms of its guard and of its body.
func clauseParts(t api.Term) (head api.Term, guard, body []api.Term) {
	if !has(t, ":-", 2) {
		return t, nil, nil
	}
	head, behind := t.L[0], t.L[1]
	if has(behind, "|", 2) {
		return head, goalsOf(behind.L[0]), goalsOf(behind.L[1])
	}
	return head, nil, goalsOf(behind)
}

// goalsOf returns the goals of a term.
func goalsOf(t api.Term) []api.Term {
	switch {
	case has(t, ",", 2):
		return append(goalsOf(t.L[0]), goalsOf(t.L[1])...)
	case isTrue(t):
		return nil
	}
	return []api.Term{t}
}

// programReader reads a program: it has the procedures that were begun, and the mark of the next clause.
type programReader struct {
	clauseReader
	marks map[string]int
	begun index
	procs []api.Proc
	mark  int
}

// newProgramReader returns a reader at the beginning.
func newProgramReader() *programReader {
	return &programReader{
		clauseReader: clauseReader{words: newWords()},
		marks:        map[string]int{elseWord: api.MarkElse, lateWord: api.MarkLate},
		begun:        index{},
	}
}

// next reads the next term.
func (r *programReader) next(t api.Term) {
	mark, isMark := r.marks[t.S]
	switch {
	case t.Kind == api.KAtom && isMark:
		r.noMark()
		r.mark = mark
	case has(t, ":-", 1):
		r.noMark()
		r.begin(r.declared(t.L[0]))
	default:
		r.add(t)
	}
}

// noMark fails if a mark stands ahead.
func (r *programReader) noMark() {
	if r.mark != api.MarkNone {
		r.fail()
	}
}

// declared reads the symbol of a procedure that is written as its name / its arity.
func (r *programReader) declared(t api.Term) api.Symbol {
	if !has(t, "/", 2) || t.L[0].Kind != api.KAtom || !isIntegerTo(t.L[1], api.MaxArity) {
		r.fail()
	}
	return api.Symbol{Name: t.L[0].S, Arity: t.L[1].N}
}

// begin begins a procedure.
func (r *programReader) begin(s api.Symbol) {
	_, there := r.begun[s]
	if there || r.reserved(s) || len(r.procs) == api.MaxProcs {
		r.fail()
	}
	r.begun[s] = len(r.procs)
	r.procs = append(r.procs, api.Proc{Name: s.Name, Arity: s.Arity})
}

// add adds a clause to its procedure, which begins with it, unless it was begun last.
func (r *programReader) add(t api.Term) {
	s, c := r.clause(t, r.mark)
	r.mark = api.MarkNone
	if len(r.procs) == 0 || symbolOfProc(r.procs[len(r.procs)-1]) != s {
		r.begin(s)
	}
	last := &r.procs[len(r.procs)-1]
	if len(last.Clauses) == api.MaxClauses {
		r.fail()
	}
	last.Clauses = append(last.Clauses, c)
}

// end throws unless what was read is a whole program.
func (r *programReader) end() {
	r.noMark()
	// All but calls was looked at where it was read.
	for _, x := range r.procs {
		for _, c := range x.Clauses {
			if !r.callsOnly(c.Body, r.begun) {
				panic(wrong{0, api.ErrProg})
			}
		}
	}
}

// Program returns the program that terms are; otherwise the index of the term that is wrong.
func Program(l []api.Term) (p api.Program, at int, e api.Errno) {
	defer func() {
		switch thrown := recover().(type) {
		case nil:
		case wrong:
			p, at, e = api.Program{}, thrown.at, thrown.e
		default:
			panic(thrown)
		}
	}()
	for i, t := range l {
		if term.Check(t) != api.OK {
			panic(wrong{i, api.ErrTerm})
		}
	}
	r := newProgramReader()
	for i, t := range l {
		r.at = i
		r.next(t)
	}
	r.end()
	return api.Program{Procs: r.procs}, 0, api.OK
}

// Query returns the query that a term is.
func Query(t api.Term) (api.Query, api.Errno) {
	if term.Check(t) != api.OK {
		return api.Query{}, api.ErrTerm
	}
	// Parts of a term are terms together.
	all, vars, _ := term.Normal(goalsOf(t))
	out := api.Query{Vars: len(vars), Goals: all}
	if !newWords().isQuery(out) {
		return api.Query{}, api.ErrClause
	}
	return out, api.OK
}
