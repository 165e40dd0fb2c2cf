package prog_test

import (
	"slices"
	"strings"
	"testing"

	"riparian/api"
	"riparian/prog"
)

// memory is where lists were seen to lie.
type memory map[any]bool

// claim notes where a list lies; it reports whether no other one lies there.
func claim[T any](m memory, l []T) bool {
	if len(l) == 0 {
		return true
	}
	is := !m[&l[0]]
	m[&l[0]] = true
	return is
}

// terms notes lists of terms, and those within them.
func (m memory) terms(l []api.Term) bool {
	is := claim(m, l)
	for _, t := range l {
		is = m.terms(t.L) && is
	}
	return is
}

// clause notes the lists of a clause.
func (m memory) clause(c api.Clause) bool {
	head, guard, body := m.terms(c.Head), m.terms(c.Guard), m.terms(c.Body)
	return head && guard && body
}

// program notes the lists of a program.
func (m memory) program(p api.Program) bool {
	is := claim(m, p.Procs)
	for _, x := range p.Procs {
		is = claim(m, x.Clauses) && is
		for _, c := range x.Clauses {
			is = m.clause(c) && is
		}
	}
	return is
}

// shared is a program, a query of it, and a clause, in which the same lists lie at several places.
func shared() (api.Program, api.Query, api.Clause) {
	t := fun("f", x, vec(a))
	goal := fun("p", t)
	head, guard := []api.Term{t}, []api.Term{fun("==", t, t), yes}
	body := []api.Term{goal, goal, fun("@", goal, integer(2)), fun("@", yes, integer(1)), yes}
	c := api.Clause{Vars: 1, Head: head, Guard: guard, Body: body}
	clauses := []api.Clause{c, c, {Head: []api.Term{vec(a)}}}
	return procs(api.Proc{Name: "p", Arity: 1, Clauses: clauses}, api.Proc{Name: "q", Arity: 1, Clauses: clauses}), api.Query{Vars: 1, Goals: body}, c
}

// TestR2_Memory: what is returned is new memory, and no two lists of a result share any; arguments stay what they are.
func TestR2_Memory(t *testing.T) {
	p, q, c := shared()
	m := memory{}
	m.program(p)
	m.terms(q.Goals)
	wantNew := func(name string, is bool, e api.Errno) {
		t.Helper()
		want(t, name, is && e == api.OK, true)
	}
	_, _, bare := prog.Goal(q.Goals[0])
	wantNew("Goal", m.terms([]api.Term{bare}), api.OK)
	_, _, bare = prog.Goal(q.Goals[2])
	wantNew("Goal @ P", m.terms([]api.Term{bare}), api.OK)
	trimmed, e := prog.Trim(p, q)
	wantNew("Trim", m.program(trimmed), e)
	sorted, e := prog.Sorted(p)
	wantNew("Sorted", m.program(sorted), e)
	normal, e := prog.Normal(c)
	wantNew("Normal", m.clause(normal), e)
	fresh, e := prog.Fresh(c, 0)
	wantNew("Fresh", m.clause(fresh), e)
	written, e := prog.Terms(p)
	wantNew("Terms", m.terms(written), e)
	read, _, e := prog.Program(written)
	wantNew("Program", m.program(read), e)
	asked, e := prog.QueryTerm(q)
	wantNew("QueryTerm", m.terms([]api.Term{asked}), e)
	one, e := prog.QueryTerm(api.Query{Vars: 1, Goals: q.Goals[:1]})
	wantNew("QueryTerm of one goal", m.terms([]api.Term{one}), e)
	got, e := prog.Query(asked)
	wantNew("Query", m.terms(got.Goals), e)
	joined, e := prog.Join([]api.Module{{Name: "m", P: p, Exports: symbols("p/1")}, {Name: "n", P: p}, {Name: "o", P: procs(api.Proc{Name: "q", Arity: 1, Clauses: p.Procs[0].Clauses}), Imports: imports("p/1=m:p/1")}})
	wantNew("Join", m.program(joined), e)
	before, query, clause := shared()
	want(t, "the arguments", equalPrograms(p, before) && equalQueries(q, query) && equalClauses(c, clause), true)
}

// TestR2_Room: no list of a result has room behind it in which another one lies.
func TestR2_Room(t *testing.T) {
	_, _, c := shared()
	normal, _ := prog.Normal(c)
	_ = append(normal.Head, a)
	_ = append(normal.Guard, a)
	want(t, "Normal", equalClauses(normal, c), true)
	l, _ := prog.Components(network([]int{1}, []int{0}, nil, []int{2}))
	_ = append(l[0], 9)
	_ = append(l[1], 9)
	wantLists(t, "Components", l, api.OK, []int{0, 1}, []int{2}, []int{3})
}

// TestR3_Empty: nil and empty lists are alike, also within clauses and programs.
func TestR3_Empty(t *testing.T) {
	zero := []api.Term{}
	c := api.Clause{Head: zero, Guard: zero, Body: []api.Term{{Kind: api.KAtom, S: "p", L: zero}}}
	p := procs(proc("p", 0, c))
	other := procs(proc("p", 0, api.Clause{Body: []api.Term{atom("p")}}))
	check(t, p)
	want(t, "Same", prog.Same(p, other) && prog.Same(api.Program{Procs: []api.Proc{}}, api.Program{}), true)
	want(t, "Same", prog.Same(procs(api.Proc{Clauses: []api.Clause{}}), procs(api.Proc{})), true)
	l, e := prog.Terms(p)
	wantTerms(t, "Terms", l, e, lines(":- p/0. p :- p.")...)
	want(t, "CheckQuery", prog.CheckQuery(p, api.Query{Goals: zero}), api.OK)
	got, e := prog.Join([]api.Module{{Name: "m", Exports: []api.Symbol{}, Imports: []api.Import{}, P: p}})
	wantProgram(t, "Join", got, e, procs(proc("m:p", 0, clause("", "", "'m:p'"))))
	kind, _, _ := prog.Goal(api.Term{Kind: api.KAtom, S: "true", L: zero})
	want(t, "Goal", kind, api.GoTrue)
}

// TestR1_Huge: calls end and do not panic where arguments are far too large.
func TestR1_Huge(t *testing.T) {
	deep := chain("f", 65536, a)
	wide := vec(make([]api.Term, 1000000)...)
	long := make([]api.Term, 1000000)
	for name, w := range map[string]api.Term{"deep": deep, "wide": wide, "deep sum": chain("-", 65536, x), "deep goals": chain("@", 65536, a)} {
		want(t, name, prog.Expr(w) || prog.Test(fun("wait", w)), false)
		kind, _, _ := prog.Goal(w)
		want(t, name, kind, api.GoNone)
		want(t, name, prog.CheckClause(api.Clause{Head: []api.Term{w}}, 1), api.ErrClause)
		_, _, e := prog.Program([]api.Term{w})
		want(t, name, e, api.ErrTerm)
		_, e = prog.Query(w)
		want(t, name, e, api.ErrTerm)
	}
	for name, c := range map[string]api.Clause{"head": {Head: long}, "guard": {Guard: long}, "body": {Body: long}} {
		_, e := prog.Normal(c)
		want(t, name, e, api.ErrClause)
		_, e = prog.Fresh(c, 0)
		want(t, name, e, api.ErrClause)
		want(t, name, prog.Check(procs(proc("p", 0, c))), api.ErrProg)
	}
	want(t, "procedures", prog.Check(api.Program{Procs: make([]api.Proc, 1000000)}), api.ErrProg)
	want(t, "clauses", prog.Check(procs(api.Proc{Name: "p", Clauses: make([]api.Clause, 1000000)})), api.ErrProg)
	want(t, "a long name", prog.Check(procs(proc(strings.Repeat("n", 1000000), 0))), api.ErrProg)
	many := make([]api.Symbol, 100000)
	asked := make([]api.Import, len(many))
	for i := range many {
		many[i] = symbol(strings.Repeat("s", 1+i%20), i)
		asked[i] = api.Import{Own: many[i], Module: "n", From: many[len(many)-1-i]}
	}
	var all api.Program
	for _, s := range many {
		all.Procs = append(all.Procs, proc(s.Name, s.Arity))
	}
	for _, l := range [][]api.Module{{{Name: "m", Imports: asked}, {Name: "n", Exports: many, P: all}}, {{Name: "m", P: all, Exports: many}}, {{Name: "m", Exports: many}}} {
		got, e := prog.Join(l)
		wantNoProgram(t, "Join", got, e, api.ErrModule)
	}
	clauses := slices.Repeat([]api.Term{of("p")}, 100000)
	_, at, e := prog.Program(clauses)
	want(t, "many clauses", at == 32 && e == api.ErrClause, true)
}
