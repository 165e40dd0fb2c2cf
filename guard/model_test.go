package guard_test

import (
	"slices"

	"riparian/api"
	"riparian/term"
	"riparian/unify"
)

// This file has the chapter's words, one by one: whole lists of occurrences, and the store that a clause's tests are answered in.

// together are several answers together.
func together(l ...reply) reply {
	out := reply{is: api.Yes}
	for _, r := range l {
		if r.is == api.No {
			return no()
		}
		if r.is == api.Waits {
			out.is = api.Waits
			out.waits = append(out.waits, r.waits...)
		}
	}
	slices.Sort(out.waits)
	out.waits = slices.Compact(out.waits)
	return out
}

// if_ is Yes or No.
func if_(holds bool) reply {
	if holds {
		return yes()
	}
	return no()
}

func valueOf(s api.Store, t api.Term) api.Term {
	v, e := unify.Value(s, t)
	if e != api.OK {
		panic(e)
	}
	return v
}

func asked(s api.Store, t, u api.Term) reply {
	is, vars, e := unify.Ask(s, t, u)
	if e != api.OK {
		panic(e)
	}
	slices.Sort(vars)
	return reply{is: is, waits: vars}
}

// numberOf is the number of a term, with its answer.
func numberOf(s api.Store, t api.Term) reply {
	v := valueOf(s, t)
	switch {
	case v.Kind == api.KInt:
		return number(v.N)
	case v.Kind == api.KVar:
		return waits(v.N)
	case v.Kind == api.KFun && v.S == "-" && len(v.L) == 1:
		r := numberOf(s, v.L[0])
		r.n = -r.n
		return r
	case v.Kind == api.KFun && len(v.L) == 2 && slices.Contains([]string{"+", "-", "*", "/", "mod"}, v.S):
		p, q := numberOf(s, v.L[0]), numberOf(s, v.L[1])
		r := together(p, q)
		if r.is != api.Yes {
			return r
		}
		return combined(v.S, p.n, q.n)
	}
	return no()
}

// combined is the number of two, with the answer.
func combined(name string, p, q int) reply {
	switch name {
	case "+":
		p += q
	case "-":
		p -= q
	case "*":
		p *= q
	default:
		if q == 0 {
			return no()
		}
		quotient := 0
		for rest := max(p, -p); rest >= max(q, -q); {
			// A few steps of a division by hand: the greatest multiple by a power of 2 that fits.
			step := 1
			for 2*step*max(q, -q) <= rest {
				step *= 2
			}
			rest -= step * max(q, -q)
			quotient += step
		}
		if (p < 0) != (q < 0) {
			quotient = -quotient
		}
		if name == "mod" {
			quotient = p - q*quotient
		}
		p = quotient
	}
	if p < -api.MaxInt || p > api.MaxInt {
		return no()
	}
	return number(p)
}

// kindTests are the tests that ask for a kind.
var kindTests = map[string]int{"integer": api.KInt, "atom": api.KAtom, "string": api.KStr, "vector": api.KVec}

// testOf is the answer of a test.
func testOf(s api.Store, t api.Term) reply {
	switch {
	case t.S == "true":
		return yes()
	case t.S == "==":
		return asked(s, t.L[0], t.L[1])
	case t.S == "\\==":
		r := asked(s, t.L[0], t.L[1])
		r.is = map[int]int{api.Yes: api.No, api.No: api.Yes, api.Waits: api.Waits}[r.is]
		return r
	case len(t.L) == 1:
		return kindOf(t.S, valueOf(s, t.L[0]))
	}
	p, q := numberOf(s, t.L[0]), numberOf(s, t.L[1])
	r := together(p, q)
	if r.is != api.Yes {
		return r
	}
	return if_(map[string]bool{"=:=": p.n == q.n, "=\\=": p.n != q.n, "<": p.n < q.n, "=<": p.n <= q.n, ">": p.n > q.n, ">=": p.n >= q.n}[t.S])
}

// kindOf is the answer of a test that asks for a kind, or for wait, or for list.
func kindOf(name string, v api.Term) reply {
	switch {
	case v.Kind == api.KVar:
		return waits(v.N)
	case name == "wait":
		return yes()
	case name == "list":
		return if_(equal(v, atom("[]")) || v.Kind == api.KFun && v.S == "." && len(v.L) == 2)
	}
	return if_(v.Kind == kindTests[name])
}

// Where an occurrence stands.
const (
	laid = iota
	under
	nowhere
)

// occurrence is one of a variable: laid on a term, under a variable, or neither.
type occurrence struct {
	v, where int
	at       api.Term
}

// occurrences are those of all variables of a pattern, in order, with the answers on the way.
func occurrences(s api.Store, p, arg api.Term, where int, at api.Term) ([]occurrence, []reply) {
	if where == laid {
		at = valueOf(s, arg)
	}
	if p.Kind == api.KVar {
		return []occurrence{{p.N, where, at}}, nil
	}
	var found []occurrence
	var replies []reply
	switch {
	case where != laid:
	case at.Kind == api.KVar:
		where, replies = under, []reply{waits(at.N)}
	case at.Kind != p.Kind || at.N != p.N || at.S != p.S || len(at.L) != len(p.L):
		where, at, replies = nowhere, none, []reply{no()}
	}
	for i, within := range p.L {
		next := none
		if where == laid {
			next = at.L[i]
		}
		l, r := occurrences(s, within, next, where, at)
		found, replies = append(found, l...), append(replies, r...)
	}
	return found, replies
}

// matchOf is the answer of a match, with what is bound, and the first occurrences of variables.
func matchOf(s api.Store, patterns, args []api.Term) (reply, map[int]occurrence) {
	var found []occurrence
	var replies []reply
	for i, p := range patterns {
		l, r := occurrences(s, p, args[i], laid, none)
		found, replies = append(found, l...), append(replies, r...)
	}
	first := map[int]occurrence{}
	for _, o := range found {
		if f, is := first[o.v]; !is {
			first[o.v] = o
		} else if f.where == laid && o.where == laid {
			replies = append(replies, asked(s, f.at, o.at))
		}
	}
	r := together(replies...)
	if r.is == api.Yes {
		r.binds = make([]api.Term, count(patterns))
		for v, o := range first {
			r.binds[v] = o.at
		}
	}
	return r, first
}

// takeOf is the answer of a clause, with what it binds.
func takeOf(s api.Store, args []api.Term, c api.Clause) reply {
	r, first := matchOf(s, c.Head, args)
	own := api.Store{B: slices.Concat(s.B, make([]api.Term, c.Vars))}
	for v, o := range first {
		if o.where == laid {
			own.B[len(s.B)+v] = o.at
		}
	}
	replies := []reply{{is: r.is, waits: r.waits}}
	for _, t := range c.Guard {
		replies = append(replies, guardOf(own, len(s.B), t, first))
	}
	out := together(replies...)
	if out.is == api.Yes {
		out.binds = append(r.binds, make([]api.Term, c.Vars-len(r.binds))...)
	}
	return out
}

// guardOf is the answer of a test of a clause whose variables stand in a store from the n-th one on.
func guardOf(own api.Store, n int, t api.Term, first map[int]occurrence) reply {
	vars, _ := term.Vars([]api.Term{t})
	out, placed := reply{is: api.Waits}, true
	for _, v := range vars {
		if first[v].where == under {
			out.waits = append(out.waits, first[v].at.N)
		}
		placed = placed && first[v].where == laid
	}
	if !placed {
		return out
	}
	t, e := term.Shift(t, n)
	if e != api.OK {
		panic(e)
	}
	return testOf(own, t)
}

// answersOf are the answers of the clauses of a procedure.
func answersOf(s api.Store, args []api.Term, p api.Proc) []reply {
	var out []reply
	for _, c := range p.Clauses {
		out = append(out, takeOf(s, args, c))
	}
	return out
}

// segments are the numbers of the segments in which the clauses stand.
func segments(p api.Proc) []int {
	var out []int
	at := 0
	for i, c := range p.Clauses {
		if i > 0 && c.Mark == api.MarkElse {
			at++
		}
		out = append(out, at)
	}
	return out
}

// openOf is the answer of a call, with the clauses that can be taken.
func openOf(s api.Store, args []api.Term, p api.Proc) reply {
	answers, at := answersOf(s, args, p), segments(p)
	var out reply
	allNo := true
	var waiting []int
	for i, r := range answers {
		can := r.is == api.Yes
		for j, q := range answers {
			can = can && (at[j] >= at[i] || q.is == api.No)
		}
		if can {
			out.list = append(out.list, i)
		}
		allNo = allNo && r.is == api.No
		waiting = append(waiting, r.waits...)
	}
	switch {
	case len(out.list) > 0:
		out.is = api.Yes
	case allNo:
		out.is = api.No
	default:
		out = together(waits(waiting...))
	}
	return out
}
