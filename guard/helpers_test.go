package guard_test

import (
	"math/rand"
	"slices"
	"strings"
	"testing"

	"riparian/api"
	"riparian/read"
	"riparian/unify"
)

func variable(n int) api.Term    { return api.Term{Kind: api.KVar, N: n} }
func integer(n int) api.Term     { return api.Term{Kind: api.KInt, N: n} }
func atom(s string) api.Term     { return api.Term{Kind: api.KAtom, S: s} }
func str(s string) api.Term      { return api.Term{Kind: api.KStr, S: s} }
func vec(l ...api.Term) api.Term { return api.Term{Kind: api.KVec, L: l} }
func fun(s string, l ...api.Term) api.Term {
	return api.Term{Kind: api.KFun, S: s, L: l}
}

var (
	x, y, z = variable(0), variable(1), variable(2)
	a, b    = atom("a"), atom("b")
	none    = api.Term{}
)

// terms are terms with a comma between each two of them, in which X, Y, Z, U, V, W are the variables 0 to 5; others come behind.
func terms(text string) []api.Term {
	if text == "" {
		return nil
	}
	t, _, at, e := read.Term("{v(X, Y, Z, U, V, W), " + text + "}")
	if e != api.OK {
		panic(text + " goes wrong at " + text[max(at-23, 0):])
	}
	return t.L[1:]
}

// of is a term, likewise.
func of(text string) api.Term { return terms(text)[0] }

// patterns are terms with a comma between each two of them, whose variables are numbered by their first occurrences.
func patterns(text string) []api.Term {
	if text == "" {
		return nil
	}
	t, _, at, e := read.Term("{" + text + "}")
	if e != api.OK {
		panic(text + " goes wrong at " + text[max(at-1, 0):])
	}
	return t.L
}

// store is the store of n variables with bindings as `X = a, Z = f(X)`.
func store(n int, bindings string) api.Store {
	s := unbound(n)
	for _, t := range terms(bindings) {
		s.B[t.L[0].N] = t.L[1]
	}
	if e := unify.Check(s); e != api.OK {
		panic(bindings)
	}
	return s
}

// unbound is a store of n unbound variables.
func unbound(n int) api.Store { return api.Store{B: make([]api.Term, n)} }

// count is how many variables there are up to the greatest one of terms.
func count(l []api.Term) int {
	most := 0
	for _, t := range l {
		if t.Kind == api.KVar {
			most = max(most, t.N+1)
		}
		most = max(most, count(t.L))
	}
	return most
}

// clause is the clause with the terms that three lists say, which share their variables.
func clause(head, guard, body string) api.Clause {
	parts := []string{head, guard, body}
	for i, part := range parts {
		parts[i] = "[]"
		if part != "" {
			parts[i] = "l(" + part + ")"
		}
	}
	l := patterns(strings.Join(parts, ", "))
	return api.Clause{Vars: count(l), Head: l[0].L, Guard: l[1].L, Body: l[2].L}
}

// orElse is a clause that is marked as the first one of a segment.
func orElse(c api.Clause) api.Clause {
	c.Mark = api.MarkElse
	return c
}

// late is a clause that is marked as one behind alternatively.
func late(c api.Clause) api.Clause {
	c.Mark = api.MarkLate
	return c
}

// proc is a procedure p.
func proc(arity int, l ...api.Clause) api.Proc {
	return api.Proc{Name: "p", Arity: arity, Clauses: l}
}

// chain returns a term of so many nodes, each within the one ahead.
func chain(depth int, last api.Term) api.Term {
	for range depth - 1 {
		last = fun("f", last)
	}
	return last
}

// broad returns a term of depth 3 (or less) with so many nodes.
func broad(nodes int) api.Term {
	out := vec()
	for nodes--; nodes > 0; {
		row := vec()
		for nodes--; nodes > 0 && len(row.L) < api.MaxVec; nodes-- {
			row.L = append(row.L, a)
		}
		out.L = append(out.L, row)
	}
	return out
}

// sum returns an expression with so many nodes.
func sum(nodes int) api.Term {
	switch {
	case nodes == 1:
		return integer(1)
	case nodes%2 == 0:
		return fun("-", sum(nodes-1))
	}
	half := (nodes - 1) / 2
	return fun("+", sum(half), sum(nodes-1-half))
}

// towers is a store in which the variables high and high + 1 + high have equal whole values with 2^(high+1) - 1 nodes, built of the variables 0 and high + 1, which have these bindings.
func towers(high int, first, second api.Term) (s api.Store, one, other api.Term) {
	s = unbound(2 * (high + 1))
	for i := 1; i <= high; i++ {
		s.B[i] = fun("f", variable(i-1), variable(i-1))
		s.B[high+1+i] = fun("f", variable(high+i), variable(high+i))
	}
	s.B[0], s.B[high+1] = first, second
	return s, variable(high), variable(2*high + 1)
}

// badTerms are trees that are no terms.
func badTerms() []api.Term {
	return []api.Term{
		none, {Kind: 7}, {Kind: -1}, {N: 1}, {S: "a"}, {L: []api.Term{a}}, variable(-1), variable(api.MaxVar), integer(api.MaxInt + 1), integer(-api.MaxInt - 1), atom(""), fun("f"),
		atom("a\n"), atom(strings.Repeat("a", 33)), str(strings.Repeat("a", 256)), fun("f", a, none), vec(fun("g", fun("f"))),
		{Kind: api.KInt, S: "a"}, {Kind: api.KVar, L: []api.Term{a}}, {Kind: api.KAtom, S: "true", N: 1}, fun("wait", none), fun("==", a, fun("f")), broad(api.MaxNodes + 1), chain(api.MaxDeep+1, a),
	}
}

// badStores are no stores.
func badStores() map[string]api.Store {
	return map[string]api.Store{
		"too many":            unbound(api.MaxVar + 1),
		"greater":             {B: []api.Term{y, none, none}},
		"itself":              {B: []api.Term{none, y, none}},
		"no such variable":    {B: []api.Term{none, fun("f", variable(3)), none}},
		"circle":              {B: []api.Term{fun("f", y), fun("g", x), none}},
		"no term":             {B: []api.Term{none, none, fun("f")}},
		"kind 0 with a field": {B: []api.Term{none, none, {N: 1}}},
	}
}

// equal compares two trees by hand.
func equal(s, t api.Term) bool {
	return s.Kind == t.Kind && s.N == t.N && s.S == t.S && slices.EqualFunc(s.L, t.L, equal)
}

func equalAll(s, t []api.Term) bool { return slices.EqualFunc(s, t, equal) }

func want[T comparable](t *testing.T, name string, got, wanted T) {
	t.Helper()
	if got != wanted {
		t.Errorf("%s: got %v, want %v", name, got, wanted)
	}
}

// reply is all that a call returns: not every call returns each part of it.
type reply struct {
	n     int
	is    int
	binds []api.Term
	list  []int
	waits []int
	e     api.Errno
}

func yes() reply              { return reply{is: api.Yes} }
func no() reply               { return reply{is: api.No} }
func waits(vars ...int) reply { return reply{is: api.Waits, waits: vars} }
func fails(e api.Errno) reply { return reply{e: e} }
func number(n int) reply      { return reply{n: n, is: api.Yes} }
func binds(l ...api.Term) reply {
	return reply{is: api.Yes, binds: l}
}
func taken(l ...int) reply { return reply{is: api.Yes, list: l} }

func equalReplies(r, q reply) bool {
	return r.n == q.n && r.is == q.is && r.e == q.e && equalAll(r.binds, q.binds) && slices.Equal(r.list, q.list) && slices.Equal(r.waits, q.waits)
}

func wantReply(t *testing.T, name string, got, wanted reply) {
	t.Helper()
	if !equalReplies(got, wanted) {
		t.Errorf("%s: got %v, want %v", brief(name), got, wanted)
	}
}

// brief cuts a long text.
func brief(s string) string { return s[:min(len(s), 300)] }

// maker makes things by chance.
type maker struct{ *rand.Rand }

func pick[T any](r *rand.Rand, l ...T) T { return l[r.Intn(len(l))] }

// term makes a term with variables below n.
func (m maker) term(depth, n int) api.Term {
	if n > 0 && m.Intn(3) == 0 {
		return variable(m.Intn(n))
	}
	if depth == 0 || m.Intn(3) == 0 {
		return pick(m.Rand, integer(m.Intn(6)-2), integer(0), a, b, atom(api.Nil), str("a"), str(""), vec())
	}
	one, two := m.term(depth-1, n), m.term(depth-1, n)
	if m.Intn(3) == 0 {
		return m.expr(depth, n)
	}
	return pick(m.Rand, fun("f", one), fun("f", one, two), fun("g", one), fun(api.Cell, one, two), vec(one), vec(one, two), fun("/", one))
}

// expr makes an expression with variables below n.
func (m maker) expr(depth, n int) api.Term {
	if n > 0 && m.Intn(3) == 0 {
		return variable(m.Intn(n))
	}
	if depth == 0 || m.Intn(4) == 0 {
		return pick(m.Rand, integer(m.Intn(7)-3), integer(0), integer(api.MaxInt), integer(-api.MaxInt), integer(65536))
	}
	if m.Intn(6) == 0 {
		return fun("-", m.expr(depth-1, n))
	}
	return fun(pick(m.Rand, "+", "-", "*", "/", "mod"), m.expr(depth-1, n), m.expr(depth-1, n))
}

// test makes a test with variables below n.
func (m maker) test(n int) api.Term {
	switch m.Intn(8) {
	case 0:
		return pick(m.Rand, atom("true"), fun("wait", m.term(2, n)), fun("list", m.term(2, n)))
	case 1, 2:
		return fun(pick(m.Rand, "wait", "integer", "atom", "string", "vector", "list"), m.term(1, n))
	case 3, 4:
		return fun(pick(m.Rand, "==", "\\=="), m.term(2, n), m.term(2, n))
	}
	return fun(pick(m.Rand, "=:=", "=\\=", "<", "=<", ">", ">="), m.expr(2, n), m.expr(2, n))
}

// store makes a store of n variables.
func (m maker) store(n int) api.Store {
	for {
		s := unbound(n)
		for v := range s.B {
			switch m.Intn(6) {
			case 0:
				s.B[v] = m.expr(2, n)
			case 1:
				s.B[v] = m.term(2, n)
			case 2:
				s.B[v] = variable(m.Intn(v + 1))
			case 3:
				s.B[v] = pick(m.Rand, integer(m.Intn(5)-1), a, fun("f", m.term(1, n)))
			}
		}
		if unify.Check(s) == api.OK {
			return s
		}
	}
}

// more makes a store that implies another one.
func (m maker) more(s api.Store) api.Store {
	for range 1 + m.Intn(3) {
		n := len(s.B)
		if out, is, e := unify.Unify(s, m.term(0, n), m.term(2, n)); is && e == api.OK {
			s = out
		}
	}
	return s
}

// bound makes a store that implies another one, and in which all variables are bound.
func (m maker) bound(s api.Store) api.Store {
	for v := range s.B {
		if out, is, e := unify.Unify(s, variable(v), m.term(2, 0)); is && e == api.OK {
			s = out
		}
	}
	return s
}

// loose makes a pattern out of a term in a store: parts of its value stay, others become variables below n, or something else.
func (m maker) loose(s api.Store, t api.Term, n int) api.Term {
	v, _ := unify.Value(s, t)
	switch {
	case m.Intn(4) == 0 || v.Kind == api.KVar && m.Intn(3) > 0:
		return variable(m.Intn(n))
	case v.Kind == api.KVar || m.Intn(12) == 0:
		return m.term(1, n)
	}
	out := v
	out.L = nil
	for _, x := range v.L {
		out.L = append(out.L, m.loose(s, x, n))
	}
	return out
}

// arguments makes terms over a store, and as many patterns.
func (m maker) arguments(s api.Store, most int) (patterns, args []api.Term) {
	n := 1 + m.Intn(4)
	for range m.Intn(most + 1) {
		arg := m.term(2, len(s.B))
		args, patterns = append(args, arg), append(patterns, m.loose(s, arg, n))
	}
	return patterns, args
}

// numbered returns terms with their variables numbered by their first occurrences, and how many they are.
func numbered(lists ...[]api.Term) int {
	names := map[int]int{}
	for _, l := range lists {
		numberEach(names, l)
	}
	return len(names)
}

// numberEach numbers variables in place.
func numberEach(names map[int]int, l []api.Term) {
	for i, t := range l {
		if t.Kind == api.KVar {
			if _, is := names[t.N]; !is {
				names[t.N] = len(names)
			}
			l[i].N = names[t.N]
		}
		numberEach(names, t.L)
	}
}

// copied copies terms by hand.
func copied(l []api.Term) []api.Term {
	out := slices.Clone(l)
	for i := range out {
		out[i].L = copied(out[i].L)
	}
	return out
}

// clause makes a clause for arguments in a store.
func (m maker) clause(s api.Store, args []api.Term) api.Clause {
	n := 1 + m.Intn(4)
	var head, guard []api.Term
	for _, arg := range args {
		head = append(head, m.loose(s, arg, n))
	}
	head = copied(head)
	vars := numbered(head)
	for range m.Intn(4) {
		guard = append(guard, m.test(vars))
	}
	guard = copied(guard)
	return api.Clause{Mark: pick(m.Rand, api.MarkNone, api.MarkNone, api.MarkElse, api.MarkLate), Head: head, Guard: guard, Vars: numbered(head, guard)}
}

// proc makes a procedure for arguments in a store.
func (m maker) proc(s api.Store, args []api.Term) api.Proc {
	out := proc(len(args))
	for range m.Intn(6) {
		out.Clauses = append(out.Clauses, m.clause(s, args))
	}
	return out
}
