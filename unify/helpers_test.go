package unify_test

import (
	"math/rand"
	"slices"
	"strings"
	"testing"

	"riparian/api"
	"riparian/unify"
)

func variable(n int) api.Term    { return api.Term{Kind: api.KVar, N: n} }
func integer(n int) api.Term     { return api.Term{Kind: api.KInt, N: n} }
func atom(s string) api.Term     { return api.Term{Kind: api.KAtom, S: s} }
func str(s string) api.Term      { return api.Term{Kind: api.KStr, S: s} }
func vec(l ...api.Term) api.Term { return api.Term{Kind: api.KVec, L: l} }
func fun(s string, l ...api.Term) api.Term {
	return api.Term{Kind: api.KFun, S: s, L: l}
}

var (
	x, y, z = variable(0), variable(1), variable(2)
	a, b, c = atom("a"), atom("b"), atom("c")
	none    = api.Term{}
)

// store returns the store with these bindings.
func store(l ...api.Term) api.Store { return api.Store{B: l} }

// unbound returns a store of n unbound variables, by hand.
func unbound(n int) api.Store { return api.Store{B: make([]api.Term, n)} }

// chain returns a term of so many nodes, each within the one ahead.
func chain(depth int, last api.Term) api.Term {
	for range depth - 1 {
		last = fun("f", last)
	}
	return last
}

// broad returns a term of depth 3 (or less) with so many nodes, whose last one is given.
func broad(nodes int, last api.Term) api.Term {
	if nodes == 1 {
		return last
	}
	out := vec()
	for nodes--; nodes > 0; {
		row := vec()
		for nodes--; nodes > 0 && len(row.L) < api.MaxVec; nodes-- {
			row.L = append(row.L, a)
		}
		if nodes == 0 && len(row.L) > 0 {
			row.L[len(row.L)-1] = last
		} else if nodes == 0 {
			row = last
		}
		out.L = append(out.L, row)
	}
	return out
}

// bad are trees that are no terms.
func bad() []api.Term {
	return []api.Term{
		{Kind: 7}, {Kind: -1}, {N: 1}, {S: "a"}, {L: []api.Term{a}}, variable(-1), variable(api.MaxVar), integer(api.MaxInt + 1), atom(""), fun("f"),
		atom("a\n"), atom(strings.Repeat("a", 33)), str(strings.Repeat("a", 256)), fun("f", a, none), vec(fun("g", fun("f"))),
		{Kind: api.KInt, S: "a"}, {Kind: api.KVar, L: []api.Term{a}}, broad(api.MaxNodes+1, a), chain(api.MaxDeep+1, a),
	}
}

// badStores are stores of three variables or more, each with one thing that no valid store has.
func badStores() map[string]api.Store {
	out := map[string]api.Store{
		"too many":               unbound(api.MaxVar + 1),
		"itself":                 store(none, y, none),
		"greater":                store(y, none, none),
		"no such variable":       store(none, none, none, variable(4)),
		"no such variable in":    store(fun("f", variable(3)), none, none),
		"no such variable last":  store(none, none, fun("f", a, vec(x, variable(3)))),
		"circle of one":          store(fun("f", x), none, none),
		"circle of two":          store(fun("f", y), fun("g", x), none),
		"circle of three":        store(fun("f", a, z), vec(x), fun("g", vec(y))),
		"circle through a chain": store(none, fun("f", variable(3)), y, z),
		"circle behind":          store(fun("f", y), fun("f", y), none),
		"circle last":            store(fun("f", z), none, fun("g", y, vec(a, x))),
	}
	for i, t := range bad() {
		out["no term "+string(rune('a'+i))] = store(none, none, t)
		out["no term first "+string(rune('a'+i))] = store(t, none, none)
	}
	return out
}

// equal compares two trees by hand.
func equal(s, t api.Term) bool {
	return s.Kind == t.Kind && s.N == t.N && s.S == t.S && slices.EqualFunc(s.L, t.L, equal)
}

func equalStores(s, u api.Store) bool { return slices.EqualFunc(s.B, u.B, equal) }

// copied copies terms by hand.
func copied(l []api.Term) []api.Term {
	out := slices.Clone(l)
	for i := range out {
		out[i].L = copied(out[i].L)
	}
	return out
}

func want[T comparable](t *testing.T, name string, got, wanted T) {
	t.Helper()
	if got != wanted {
		t.Errorf("%s: got %v, want %v", name, got, wanted)
	}
}

func wantTerm(t *testing.T, name string, got api.Term, e api.Errno, wanted api.Term) {
	t.Helper()
	if e != api.OK || !equal(got, wanted) {
		t.Errorf("%s: got %v, error %d, want %v", name, got, e, wanted)
	}
}

func wantNumbers(t *testing.T, name string, got []int, e api.Errno, wanted ...int) {
	t.Helper()
	if e != api.OK || !slices.Equal(got, wanted) {
		t.Errorf("%s: got %v, error %d, want %v", name, got, e, wanted)
	}
}

func wantStore(t *testing.T, name string, got api.Store, e api.Errno, wanted ...api.Term) {
	t.Helper()
	if e != api.OK || !equalStores(got, store(wanted...)) {
		t.Errorf("%s: got %v, error %d, want %v", name, got.B, e, wanted)
	}
}

// wantNoStore wants an error, and nothing beside it.
func wantNoStore(t *testing.T, name string, got api.Store, e, wanted api.Errno) {
	t.Helper()
	if e != wanted || len(got.B) != 0 {
		t.Errorf("%s: got %d bindings, error %d, want error %d alone", name, len(got.B), e, wanted)
	}
}

// unified is Unify where there is no error.
func unified(t *testing.T, s api.Store, a, b api.Term) (api.Store, bool) {
	t.Helper()
	out, is, e := unify.Unify(s, a, b)
	if e != api.OK {
		t.Fatalf("Unify of %v, %v in %v: error %d", a, b, s.B, e)
	}
	return out, is
}

// merged is Merge where there is no error.
func merged(t *testing.T, s, u api.Store) (api.Store, bool) {
	t.Helper()
	out, is, e := unify.Merge(s, u)
	if e != api.OK {
		t.Fatalf("Merge of %v and %v: error %d", s.B, u.B, e)
	}
	return out, is
}

// implies is Implies where there is no error.
func implies(t *testing.T, s, u api.Store) bool {
	t.Helper()
	is, e := unify.Implies(s, u)
	if e != api.OK {
		t.Fatalf("Implies of %v and %v: error %d", s.B, u.B, e)
	}
	return is
}

// same is Same where there is no error.
func same(t *testing.T, s api.Store, a, b api.Term) bool {
	t.Helper()
	is, e := unify.Same(s, a, b)
	if e != api.OK {
		t.Fatalf("Same of %v, %v in %v: error %d", a, b, s.B, e)
	}
	return is
}

// ask is Ask where there is no error.
func ask(t *testing.T, s api.Store, a, b api.Term) (int, []int) {
	t.Helper()
	answer, vars, e := unify.Ask(s, a, b)
	if e != api.OK {
		t.Fatalf("Ask of %v, %v in %v: error %d", a, b, s.B, e)
	}
	return answer, vars
}

// equivalent reports whether each of two stores implies the other one.
func equivalent(t *testing.T, s, u api.Store) bool {
	t.Helper()
	return implies(t, s, u) && implies(t, u, s)
}

// terms are terms of few nodes over three variables.
func terms() []api.Term {
	return []api.Term{
		x, y, z, a, integer(1), str("a"), vec(), fun("f", x), fun("f", z), fun("g", x, y), fun("g", y, x), fun("g", z, fun("f", y)), fun("g", x, x), vec(y), vec(a, z), fun("f", fun("g", z, a)),
	}
}

// bindingsOf are what variables of small stores are bound to.
func bindingsOf() []api.Term {
	return []api.Term{none, x, y, z, a, b, fun("f", x), fun("f", y), fun("f", z), fun("g", y, z), fun("g", x, x), vec(x, y)}
}

// threes are all stores of three variables with these bindings, also those that are not valid.
func threes() []api.Store {
	var out []api.Store
	for _, s := range bindingsOf() {
		for _, t := range bindingsOf() {
			for _, u := range bindingsOf() {
				out = append(out, store(s, t, u))
			}
		}
	}
	return out
}

// small are the valid ones of them, as the model tells.
func small() []api.Store {
	return slices.DeleteFunc(threes(), func(s api.Store) bool { return !isValid(s) })
}

// made returns a term over some variables by chance, the same one from the same source.
func made(r *rand.Rand, depth int, vars []int) api.Term {
	if depth <= 1 || r.Intn(4) == 0 {
		leaves := []api.Term{a, a, b, integer(1), str("a"), vec()}
		for _, v := range vars {
			leaves = append(leaves, variable(v))
		}
		return leaves[r.Intn(len(leaves))]
	}
	first, second := made(r, depth-1, vars), made(r, depth-1, vars)
	switch r.Intn(6) {
	case 0:
		return vec(first, second)
	case 1, 2:
		return fun("f", first)
	}
	return fun("g", first, second)
}

// madePair returns two terms by chance that are alike, but for variables that stand in either of them.
func madePair(r *rand.Rand, depth int, vars []int) (api.Term, api.Term) {
	of := made(r, depth, vars)
	return loosened(r, of, vars), loosened(r, of, vars)
}

// loosened returns a term with variables in some places.
func loosened(r *rand.Rand, t api.Term, vars []int) api.Term {
	if r.Intn(3) == 0 {
		return variable(vars[r.Intn(len(vars))])
	}
	t.L = slices.Clone(t.L)
	for i := range t.L {
		t.L[i] = loosened(r, t.L[i], vars)
	}
	return t
}

// madeStore returns a valid store of n variables by chance: they depend on those behind them in some order.
func madeStore(r *rand.Rand, n int) api.Store {
	out := unbound(n)
	order := r.Perm(n)
	for i, v := range order {
		switch r.Intn(3) {
		case 0:
			out.B[v] = made(r, 3, order[i+1:])
		case 1:
			if i+1 < n {
				out.B[v] = variable(order[i+1+r.Intn(n-i-1)])
			}
		}
		if out.B[v].Kind == api.KVar && out.B[v].N >= v {
			out.B[v] = none
		}
	}
	return out
}

// numbers are those from 0 to n - 1.
func numbers(n int) []int {
	out := make([]int, n)
	for i := range out {
		out[i] = i
	}
	return out
}
