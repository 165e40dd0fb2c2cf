package prog_test

import (
	"slices"
	"strings"
	"testing"

	"riparian/api"
	"riparian/prog"
)

// sixteen are the terms a, so often.
func sixteen() []api.Term { return slices.Repeat([]api.Term{a}, 16) }

// goodClauses are clauses for one argument that go as far as clauses can; they call nothing but p/1.
func goodClauses() map[string]api.Clause {
	full := clause("X", "", "")
	full.Body = []api.Term{fun("p", goalOf(398))}
	most := manyVars(64)
	return map[string]api.Clause{
		"plain": clause("X", "", ""), "otherwise": marked(api.MarkElse, clause("a", "", "")), "alternatively": marked(api.MarkLate, clause("[]", "", "")),
		"a new variable":         clause("X", "", "p(Y), p(X)"),
		"guarded":                clause("f(X, Y)", "X > Y, true, Y == f(X)", "true, X = Z"),
		"variables in the order": clause("f(X, Y)", "Y < X", "p(Y), p(Z), p(X)"),
		"8 tests":                {Head: []api.Term{a}, Guard: slices.Repeat([]api.Term{yes}, 8)},
		"16 goals":               {Head: []api.Term{a}, Body: slices.Repeat([]api.Term{yes}, 16)},
		"400 nodes":              full,
		"64 variables":           {Vars: 64, Head: []api.Term{a}, Body: most.Goals},
		"64 in the head":         {Vars: 64, Head: most.Goals},
		"any term as its head":   clause("{(p(X) :- q), \"s\"}", "wait({X})", "X := a, 1 = 2"),
	}
}

// TestP4_2_CheckClause: what is a clause, and for how many arguments.
func TestP4_2_CheckClause(t *testing.T) {
	for name, c := range goodClauses() {
		want(t, name, prog.CheckClause(c, 1), api.OK)
		want(t, name+", 0 arguments", prog.CheckClause(c, 0), api.ErrClause)
		want(t, name+", 2 arguments", prog.CheckClause(c, 2), api.ErrClause)
	}
	for name, c := range badClauses() {
		want(t, name, prog.CheckClause(c, 1), api.ErrClause)
		// What is wrong with the number of arguments is told ahead.
		want(t, name+", -1 arguments", prog.CheckClause(c, -1), api.ErrArg)
		want(t, name+", 17 arguments", prog.CheckClause(c, 17), api.ErrArg)
	}
	want(t, "none", prog.CheckClause(clause("", "", ""), 0), api.OK)
	want(t, "the zero clause", prog.CheckClause(api.Clause{}, 0), api.OK)
	want(t, "16 arguments", prog.CheckClause(api.Clause{Head: sixteen()}, 16), api.OK)
	want(t, "15 arguments", prog.CheckClause(api.Clause{Head: sixteen()}, 15), api.ErrClause)
	want(t, "17 arguments", prog.CheckClause(api.Clause{Head: append(sixteen(), a)}, 17), api.ErrArg)
	want(t, "a great number", prog.CheckClause(api.Clause{}, 1<<62), api.ErrArg)
	want(t, "65 variables", prog.CheckClause(api.Clause{Vars: 65, Body: manyVars(65).Goals}, 0), api.ErrClause)
	want(t, "the example", prog.CheckClause(clause("X", "Y > 1", "true"), 1), api.ErrClause)
	want(t, "not normal", prog.CheckClause(api.Clause{Vars: 2, Head: []api.Term{y, x}}, 2), api.ErrClause)
	large := api.Clause{Head: []api.Term{a}, Body: []api.Term{goalOf(200), goalOf(200)}}
	want(t, "401 nodes in all", prog.CheckClause(large, 1), api.ErrClause)
	large.Head = nil
	want(t, "400 nodes in all", prog.CheckClause(large, 0), api.OK)
	large.Head, large.Guard = []api.Term{a}, []api.Term{yes}
	large.Body = large.Body[:1]
	large.Body = append(large.Body, goalOf(199))
	want(t, "nodes of the guard count", prog.CheckClause(large, 1), api.ErrClause)
}

// TestP4_2_Check: what is a program.
func TestP4_2_Check(t *testing.T) {
	var all []api.Clause
	for _, c := range goodClauses() {
		all = append(all, c)
	}
	for name, p := range map[string]api.Program{
		"none": {}, "without clauses": procs(proc("p", 1)), "64 procedures": many(64),
		"32 clauses":       procs(proc("p", 1, slices.Repeat([]api.Clause{clause("X", "", "p(X) @ 2")}, 32)...)),
		"16 arguments":     procs(proc("p", 16, api.Clause{Head: sixteen()})),
		"32 bytes":         procs(proc(strings.Repeat("n", 32), 0)),
		"one name":         procs(proc("p", 0), proc("p", 1), proc("p", 2)),
		"odd names":        procs(proc("true", 1), proc("=", 3), proc(" ", 0), proc("wait", 1), proc("<", 2), proc("[]", 0), proc(".", 2, clause("X, Y", "", "[X|Y], X < Y, wait(X)"))),
		"calls one behind": procs(proc("p", 0, clause("", "", "q")), proc("q", 0, clause("", "", "p, q"))),
		"all clauses":      procs(proc("p", 1, all...)),
	} {
		want(t, name, prog.Check(p), api.OK)
	}
	for name, p := range badPrograms() {
		want(t, name, prog.Check(p), api.ErrProg)
	}
}

// TestP4_2_CheckQuery: what is a query, and of which program.
func TestP4_2_CheckQuery(t *testing.T) {
	p := program(t, "p(X) :- p(X). :- q/0.")
	for _, goals := range []string{"", "true", "p(X)", "p(X), q, p(Y) @ 3, X = Y, q @ 0", "X := a, string_join(X, Y, Z)", strings.Repeat("true, ", 15) + "q"} {
		want(t, goals, prog.CheckQuery(p, query(goals)), api.OK)
	}
	want(t, "400 nodes", prog.CheckQuery(p, api.Query{Goals: []api.Term{fun("p", goalOf(399))}}), api.OK)
	want(t, "64 variables", prog.CheckQuery(p, manyVars(64)), api.OK)
	for name, q := range badQueries() {
		want(t, name, prog.CheckQuery(p, q), api.ErrProg)
	}
	for _, goals := range []string{"p", "q(X)", "r", "p(X), r @ 3", "p(X, Y)", "wait(X)"} {
		want(t, goals, prog.CheckQuery(p, query(goals)), api.ErrProg)
	}
	for name, w := range badPrograms() {
		want(t, name, prog.CheckQuery(w, query("")), api.ErrProg)
		want(t, name, prog.CheckQuery(w, badQueries()["no goal"]), api.ErrProg)
	}
}

// TestP4_2_Find: the index of the procedure with both name and arity.
func TestP4_2_Find(t *testing.T) {
	p := program(t, ":- p/1. :- q/0. :- p/0.")
	for s, i := range map[api.Symbol]int{
		symbol("p", 1): 0, symbol("q", 0): 1, symbol("p", 0): 2, symbol("q", 1): -1, symbol("r", 0): -1, symbol("", 0): -1, symbol("p", -1): -1, symbol("p", 99): -1, symbol("=", 2): -1,
	} {
		got, e := prog.Find(p, s)
		want(t, s.Name, e, api.OK)
		want(t, s.Name, got, i)
	}
	got, e := prog.Find(api.Program{}, symbol("p", 1))
	want(t, "in none", got == -1 && e == api.OK, true)
	for name, w := range badPrograms() {
		got, e := prog.Find(w, symbol("p", 1))
		want(t, name, got == 0 && e == api.ErrProg, true)
	}
}
