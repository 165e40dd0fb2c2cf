package prog

import (
	"slices"

	"riparian/api"
)

// The atoms ahead of clauses that have a mark.
const (
	elseWord = "otherwise"
	lateWord = "alternatively"
)

// Terms returns the terms that a program is written as.
func Terms(p api.Program) ([]api.Term, api.Errno) {
	if e := Check(p); e != api.OK {
		return nil, e
	}
	var out []api.Term
	for _, x := range p.Procs {
		out = append(out, structure(":-", structure("/", atom(x.Name), api.Term{Kind: api.KInt, N: x.Arity})))
		for _, c := range x.Clauses {
			out = appendMark(out, c.Mark)
			out = append(out, clauseTerm(x.Name, copyClause(c)))
		}
	}
	return out, api.OK
}

// appendMark appends what stands ahead of a clause with a mark.
func appendMark(out []api.Term, mark int) []api.Term {
	switch mark {
	case api.MarkElse:
		return append(out, atom(elseWord))
	case api.MarkLate:
		return append(out, atom(lateWord))
	}
	return out
}

// clauseTerm returns the term of a clause, made of the clause's own memory. A guard, or a body, of nothing but true is written as an empty one.
func clauseTerm(name string, c api.Clause) api.Term {
	head := structure(name, c.Head...)
	guard, body := withoutTrue(c.Guard), withoutTrue(c.Body)
	switch {
	case len(guard) > 0:
		return structure(":-", head, structure("|", goalsTerm(guard), goalsTerm(body)))
	case len(body) > 0:
		return structure(":-", head, goalsTerm(body))
	}
	return head
}

// withoutTrue returns the terms of a list that are not true. What is true @ P stays: it is read back.
func withoutTrue(l []api.Term) []api.Term { return slices.DeleteFunc(slices.Clone(l), isTrue) }

// goalsTerm returns the term of goals.
func goalsTerm(l []api.Term) api.Term {
	if len(l) == 0 {
		return atom("true")
	}
	last := len(l) - 1
	out := l[last]
	for _, t := range slices.Backward(l[:last]) {
		out = structure(",", t, out)
	}
	return out
}

// QueryTerm returns the term that a query is written as.
func QueryTerm(q api.Query) (api.Term, api.Errno) {
	if !newWords().isQuery(q) {
		return api.Term{}, api.ErrArg
	}
	return goalsTerm(copyTerms(q.Goals)), api.OK
}
