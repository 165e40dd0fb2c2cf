package prog_test

import (
	"slices"
	"testing"

	"riparian/api"
	"riparian/prog"
)

// TestP4_4_Same: all fields count, of any programs.
func TestP4_4_Same(t *testing.T) {
	made := func(change func(*api.Program)) api.Program {
		p := procs(proc("p", 7), proc("q", -1, marked(9, clause("f(X)", "1", "p, Y")), clause("", "", "")))
		change(&p)
		return p
	}
	full := made(func(*api.Program) {})
	want(t, "itself", prog.Same(full, full), true)
	want(t, "an equal one", prog.Same(full, made(func(*api.Program) {})), true)
	want(t, "none", prog.Same(api.Program{}, api.Program{}), true)
	for name, other := range map[string]api.Program{
		"none":         {},
		"order":        made(func(p *api.Program) { p.Procs[0], p.Procs[1] = p.Procs[1], p.Procs[0] }),
		"fewer":        made(func(p *api.Program) { p.Procs = p.Procs[:1] }),
		"name":         made(func(p *api.Program) { p.Procs[0].Name = "r" }),
		"arity":        made(func(p *api.Program) { p.Procs[0].Arity = 8 }),
		"more clauses": made(func(p *api.Program) { p.Procs[0].Clauses = make([]api.Clause, 1) }),
		"clauses": made(func(p *api.Program) {
			l := p.Procs[1].Clauses
			l[0], l[1] = l[1], l[0]
		}),
		"mark":       made(func(p *api.Program) { p.Procs[1].Clauses[0].Mark = 8 }),
		"vars":       made(func(p *api.Program) { p.Procs[1].Clauses[0].Vars = 1 }),
		"head":       made(func(p *api.Program) { p.Procs[1].Clauses[0].Head[0].L[0].N = 1 }),
		"no head":    made(func(p *api.Program) { p.Procs[1].Clauses[0].Head = nil }),
		"guard":      made(func(p *api.Program) { p.Procs[1].Clauses[0].Guard[0].N = 2 }),
		"more guard": made(func(p *api.Program) { p.Procs[1].Clauses[0].Guard = list("1, 1") }),
		"body":       made(func(p *api.Program) { p.Procs[1].Clauses[0].Body[1].S = "Y" }),
		"less body":  made(func(p *api.Program) { p.Procs[1].Clauses[0].Body = p.Procs[1].Clauses[0].Body[:1] }),
	} {
		want(t, name, prog.Same(full, other) || prog.Same(other, full), false)
	}
	deep := func(last api.Term) api.Program {
		return procs(proc("p", 0, api.Clause{Body: []api.Term{chain("f", 65000, last)}}))
	}
	want(t, "deep", prog.Same(deep(a), deep(a)), true)
	want(t, "deep", prog.Same(deep(a), deep(b)), false)
}

// TestP4_4_Sorted: by the bytes of names, then by arity.
func TestP4_4_Sorted(t *testing.T) {
	p := program(t, ":- p/10. :- 'P'/3. q(X) :- p. otherwise. q(2). :- 'p q'/0. p :- q(1). :- p/9. :- pp/0. :- []/0.")
	got, e := prog.Sorted(p)
	wanted := program(t, ":- 'P'/3. :- []/0. p :- q(1). :- p/9. :- p/10. :- 'p q'/0. :- pp/0. q(X) :- p. otherwise. q(2).")
	wantProgram(t, "Sorted", got, e, wanted)
	again, e := prog.Sorted(got)
	wantProgram(t, "Sorted again", again, e, wanted)
	got, e = prog.Sorted(api.Program{})
	wantProgram(t, "none", got, e, api.Program{})
	for name, w := range badPrograms() {
		got, e := prog.Sorted(w)
		wantNoProgram(t, name, got, e, api.ErrProg)
	}
}

func wantClause(t *testing.T, name string, got api.Clause, e api.Errno, wanted api.Clause) {
	t.Helper()
	if e != api.OK || !equalClauses(got, wanted) {
		t.Errorf("%s: got %v, error %d, want %v", name, got, e, wanted)
	}
}

// wantNoClause wants an error, and nothing beside it.
func wantNoClause(t *testing.T, name string, got api.Clause, e, wanted api.Errno) {
	t.Helper()
	if e != wanted || !equalClauses(got, api.Clause{}) {
		t.Errorf("%s: got %v, error %d, want error %d alone", name, got, e, wanted)
	}
}

// numbered is a clause with other numbers for its variables, and any Vars.
func numbered(c api.Clause, vars int, numbers ...int) api.Clause {
	var change func(l []api.Term) []api.Term
	change = func(l []api.Term) []api.Term {
		out := slices.Clone(l)
		for i, t := range out {
			if t.Kind == api.KVar {
				out[i].N = numbers[t.N]
			}
			out[i].L = change(t.L)
		}
		return out
	}
	return api.Clause{Mark: c.Mark, Vars: vars, Head: change(c.Head), Guard: change(c.Guard), Body: change(c.Body)}
}

// TestP4_4_Normal: variables are numbered by their first occurrences in head, guard and body.
func TestP4_4_Normal(t *testing.T) {
	c := marked(api.MarkElse, clause("f(X), Y, X", "Y > X", "Z = Y, p(W, X)"))
	for _, numbers := range [][]int{{0, 1, 2, 3}, {3, 2, 1, 0}, {99999, 0, 50000, 7}, {1, 0, 2, 3}} {
		for _, vars := range []int{4, 0, -5, 100} {
			got, e := prog.Normal(numbered(c, vars, numbers...))
			wantClause(t, "Normal", got, e, c)
		}
	}
	got, e := prog.Normal(api.Clause{Head: []api.Term{y, x}})
	wantClause(t, "the example", got, e, api.Clause{Vars: 2, Head: []api.Term{x, y}})
	got, e = prog.Normal(api.Clause{Vars: 3})
	wantClause(t, "without terms", got, e, api.Clause{})
	got, e = prog.Normal(api.Clause{Head: sixteen()})
	wantClause(t, "16 arguments", got, e, api.Clause{Head: sixteen()})
	for name, c := range goodClauses() {
		got, e := prog.Normal(c)
		wantClause(t, name, got, e, c)
	}
	for name, c := range badClauses() {
		switch name {
		case "no head", "two arguments", "fewer variables", "more variables", "-1 variables", "not normal in the head", "not normal in the body", "begins with another variable":
			// These can be mended.
			got, e := prog.Normal(c)
			want(t, name, e == api.OK && prog.CheckClause(got, len(c.Head)) == api.OK, true)
		default:
			got, e := prog.Normal(c)
			wantNoClause(t, name, got, e, api.ErrClause)
		}
	}
	for name, c := range map[string]api.Clause{
		"17 arguments": {Head: append(sixteen(), a)}, "65 variables": {Vars: 65, Body: manyVars(65).Goals}, "a guard's own variable": {Vars: 2, Head: []api.Term{y}, Guard: []api.Term{fun("wait", x)}},
		"too many nodes for terms together": {Head: append(slices.Repeat([]api.Term{goalOf(1000)}, 4), a)},
	} {
		got, e := prog.Normal(c)
		wantNoClause(t, name, got, e, api.ErrClause)
	}
}

// TestP4_4_Fresh: all variables are greater; nothing else is changed.
func TestP4_4_Fresh(t *testing.T) {
	c := marked(api.MarkLate, clause("f(X), Y, 1", "Y > X", "Z = Y, p(a, X)"))
	for _, from := range []int{0, 1, 64, 5000, 99997} {
		got, e := prog.Fresh(c, from)
		wantClause(t, "Fresh", got, e, numbered(c, 3, from, from+1, from+2))
	}
	for _, from := range []int{-1, 99998, 99999, 100000, 1 << 62, -1 << 63, 1<<63 - 1} {
		got, e := prog.Fresh(c, from)
		wantNoClause(t, "Fresh", got, e, api.ErrArg)
	}
	ground := clause("a", "true", "p")
	got, e := prog.Fresh(ground, 99999)
	wantClause(t, "without variables", got, e, ground)
	got, e = prog.Fresh(ground, 100000)
	wantNoClause(t, "without variables", got, e, api.ErrArg)
	one := clause("X", "", "")
	got, e = prog.Fresh(one, 99999)
	wantClause(t, "one variable", got, e, api.Clause{Vars: 1, Head: []api.Term{variable(99999)}})
	for name, c := range badClauses() {
		if name == "no head" || name == "two arguments" {
			continue
		}
		got, e := prog.Fresh(c, 5)
		wantNoClause(t, name, got, e, api.ErrClause)
		// A number that is out of range is told ahead.
		got, e = prog.Fresh(c, -1)
		wantNoClause(t, name, got, e, api.ErrArg)
		got, e = prog.Fresh(c, 100000)
		wantNoClause(t, name, got, e, api.ErrArg)
	}
	got, e = prog.Fresh(api.Clause{Head: append(sixteen(), a)}, 0)
	wantNoClause(t, "17 arguments", got, e, api.ErrClause)
}
