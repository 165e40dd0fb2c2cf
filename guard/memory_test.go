package guard_test

import (
	"strings"
	"testing"

	"riparian/api"
	"riparian/guard"
)

// memory is where lists were seen to lie.
type memory map[any]bool

// claim notes where a list lies; it reports whether no other one lies there.
func claim[T any](m memory, l []T) bool {
	if cap(l) == 0 {
		return true
	}
	at := &l[:1][0]
	is := !m[at]
	m[at] = true
	return is
}

// terms notes lists of terms, and those within them.
func (m memory) terms(l []api.Term) bool {
	is := claim(m, l)
	for _, t := range l {
		is = m.terms(t.L) && is
	}
	return is
}

// TestR2_Memory: what is returned is new memory, and no two lists of a result share any.
func TestR2_Memory(t *testing.T) {
	list := of("[1, X|Z]")
	s := unbound(3)
	s.B[1] = list
	args := []api.Term{list, list, y, y, x, z}
	head := patterns("A, A, B, C, D, E")
	c := api.Clause{Vars: 5, Head: head}
	first := memory{}
	first.terms(s.B)
	first.terms(args)
	first.terms(head)
	wantNew := func(name string, l []api.Term) {
		t.Helper()
		want(t, name, len(l) > 0 && first.terms(l), true)
	}
	for _, name := range []string{"once", "again"} {
		wantNew("Match, "+name, match(s, head, args).binds)
		wantNew("Take, "+name, take(s, args, c).binds)
		test := fun("==", list, y)
		first.terms([]api.Term{test})
		opposite, _, _ := guard.Opposite(test)
		wantNew("Opposite, "+name, []api.Term{opposite})
	}
	p := proc(1, clause("a", "", ""), clause("b", "", ""))
	for name, call := range map[string]func() []int{
		"Number":  func() []int { return numberIn(s, fun("+", x, z)).waits },
		"Test":    func() []int { return test(s, fun("==", x, z)).waits },
		"Match":   func() []int { return match(s, patterns("A, A"), []api.Term{x, z}).waits },
		"Take":    func() []int { return take(s, []api.Term{x}, clause("a", "", "")).waits },
		"Open":    func() []int { return open(s, []api.Term{x}, p).waits },
		"taken":   func() []int { return open(s, []api.Term{a}, p).list },
		"Answers": func() []int { return answers(s, []api.Term{x}, p).list },
	} {
		m := memory{}
		before := call()
		want(t, name, len(before) > 0 && claim(m, before), true)
		before[0] = -1
		behind := call()
		want(t, name+" again", claim(m, behind) && behind[0] >= 0, true)
	}
}

// roomy is a list with room behind it, in which something stands.
func roomy[T any](l []T, behind T) []T { return append(append([]T{}, l...), behind)[:len(l)] }

// TestR2_Room: what stands behind the lists of arguments is not written to.
func TestR2_Room(t *testing.T) {
	s := api.Store{B: roomy(store(3, "Y = f(X)").B, b)}
	args := roomy(terms("Y, Z, X"), b)
	c := clause("A, B, C", "f(C) == A, B == C", "q(D)")
	c.Head, c.Guard, c.Body = roomy(c.Head, b), roomy(c.Guard, b), roomy(c.Body, b)
	p := api.Proc{Name: "p", Arity: 3, Clauses: roomy([]api.Clause{c}, api.Clause{Vars: 7})}
	wantReply(t, "Match", match(s, c.Head, args), binds(of("f(X)"), z, x))
	wantReply(t, "Take", take(s, args, c), waits(0, 2))
	wantReply(t, "Open", open(s, args, p), waits(0, 2))
	wantReply(t, "Answers", answers(s, args, p), reply{list: []int{3}})
	wantReply(t, "All", all(s, roomy([]api.Term{fun("==", x, z)}, b)...), waits(0, 2))
	for _, l := range [][]api.Term{s.B, args, c.Head, c.Guard, c.Body} {
		want(t, "behind", equal(l[:len(l)+1][len(l)], b), true)
	}
	want(t, "behind the clauses", p.Clauses[:2][1].Vars, 7)
	want(t, "the store", equalAll(s.B, store(3, "Y = f(X)").B), true)
	want(t, "the arguments", equalAll(args, terms("Y, Z, X")), true)
}

// TestR3_Empty: lists that are nil, and lists that are empty.
func TestR3_Empty(t *testing.T) {
	for _, l := range [][]api.Term{nil, {}} {
		s := api.Store{B: l}
		wantReply(t, "All", all(s, l...), yes())
		wantReply(t, "Match", match(s, l, l), yes())
		wantReply(t, "Take", take(s, l, api.Clause{Head: l, Guard: l, Body: l}), yes())
		wantReply(t, "Number", numberIn(s, api.Term{Kind: api.KInt, N: 3, L: l}), number(3))
		wantReply(t, "a vector", test(s, fun("==", api.Term{Kind: api.KVec, L: l}, vec())), yes())
		wantReply(t, "a pattern", match(s, []api.Term{{Kind: api.KVec, L: l}}, []api.Term{vec()}), yes())
		wantReply(t, "an argument", match(s, []api.Term{vec()}, []api.Term{{Kind: api.KVec, L: l}}), yes())
		wantReply(t, "an unbound variable", numberIn(api.Store{B: []api.Term{{L: l}}}, x), waits(0))
		opposite, is, e := guard.Opposite(fun("==", api.Term{Kind: api.KAtom, S: "a", L: l}, b))
		want(t, "Opposite", is && e == api.OK && equal(opposite, fun("\\==", a, b)), true)
	}
	for _, l := range [][]api.Clause{nil, {}} {
		wantReply(t, "Open", open(api.Store{}, nil, proc(0, l...)), no())
		wantReply(t, "Answers", answers(api.Store{}, nil, proc(0, l...)), reply{})
	}
}

// TestR1_Huge: arguments far beyond the limits are errors, and take no time.
func TestR1_Huge(t *testing.T) {
	deep, wide := chain(1000000, a), vec(make([]api.Term, 1000000)...)
	long := fun(strings.Repeat("a", 1000000), a)
	s := unbound(2)
	for _, bad := range []api.Term{deep, wide, long, variable(-1 << 63), variable(1<<63 - 1), integer(-1 << 63), {Kind: 1<<63 - 1}} {
		wantReply(t, "Number", numberIn(s, bad), fails(api.ErrTerm))
		wantReply(t, "Test", test(s, fun("wait", bad)), fails(api.ErrTerm))
		wantReply(t, "Match", match(s, patterns("A"), []api.Term{bad}), fails(api.ErrTerm))
		wantReply(t, "a pattern", match(s, []api.Term{bad}, []api.Term{a}), fails(api.ErrArg))
		wantReply(t, "Take", take(s, []api.Term{bad}, clause("A", "", "")), fails(api.ErrTerm))
		wantReply(t, "a head", take(s, []api.Term{a}, api.Clause{Head: []api.Term{bad}}), fails(api.ErrClause))
		wantReply(t, "a store", numberIn(api.Store{B: []api.Term{bad}}, a), fails(api.ErrStore))
		_, is, e := guard.Opposite(fun("==", bad, a))
		want(t, "Opposite", !is && e == api.ErrTest, true)
	}
	many := make([]api.Term, 1000000)
	wantReply(t, "many arguments", match(s, many, many), fails(api.ErrTerm))
	for i := range many {
		many[i] = a
	}
	wantReply(t, "many patterns", match(s, many, many), fails(api.ErrArg))
	wantReply(t, "many arguments of a clause", take(s, many, api.Clause{Head: many}), fails(api.ErrClause))
	wantReply(t, "many clauses", open(s, nil, proc(0, make([]api.Clause, 1000000)...)), fails(api.ErrArg))
	wantReply(t, "a large store", numberIn(api.Store{B: many}, a), fails(api.ErrStore))
}

// TestR1_LongWays: variables that lead to each other all through a store.
func TestR1_LongWays(t *testing.T) {
	s := unbound(40000)
	for v := range s.B[1:] {
		s.B[v+1] = chain(20, variable(v))
	}
	last := variable(len(s.B) - 1)
	wantReply(t, "Test", test(s, fun("==", last, fun("f", y))), no())
	wantReply(t, "Match", match(s, patterns("A, A"), []api.Term{last, z}), no())
	wantReply(t, "Match", match(s, patterns("A, B, A"), []api.Term{last, z, x}), no())
	free := unbound(len(s.B) + 1)
	copy(free.B, s.B)
	wantReply(t, "waits for what is far", match(free, patterns("A, A"), []api.Term{variable(len(s.B)), last}), waits(0, len(s.B)))
}
