package unify_test

import (
	"slices"
	"testing"

	"riparian/api"
	"riparian/term"
	"riparian/unify"
)

// doubled returns a store of n variables in which the whole value of the first one has 2^n - 1 nodes, or more by far.
func doubled(n int) api.Store {
	out := unbound(n)
	for v := range n - 1 {
		out.B[v] = fun("g", variable(v+1), variable(v+1))
	}
	return out
}

// beside returns a store that has the variables of both, and a term over u as one over that store.
func beside(t *testing.T, s, u api.Store, of api.Term) (api.Store, api.Term) {
	t.Helper()
	out := api.Store{B: copied(s.B)}
	for _, bound := range append(slices.Clone(u.B), of) {
		if bound.Kind != 0 {
			shifted, e := term.Shift(bound, len(s.B))
			want(t, "Shift", e, api.OK)
			bound = shifted
		}
		out.B = append(out.B, bound)
	}
	last := len(out.B) - 1
	return store(out.B[:last]...), out.B[last]
}

// TestP3_2_Examples: the examples of values.
func TestP3_2_Examples(t *testing.T) {
	s := store(none, fun("f", x, x), fun("f", y, y))
	value, e := unify.Value(s, z)
	wantTerm(t, "Value", value, e, fun("f", y, y))
	whole, e := unify.Whole(s, z)
	wantTerm(t, "Whole", whole, e, fun("f", fun("f", x, x), fun("f", x, x)))
	free, e := unify.Free(s, z)
	wantNumbers(t, "Free", free, e, 0)
	want(t, "Same", same(t, s, z, fun("f", y, fun("f", x, x))), true)
	want(t, "Same", same(t, s, z, fun("f", y, x)), false)
}

// TestP3_2_Value: chains are followed to their end, and nothing within a term is.
func TestP3_2_Value(t *testing.T) {
	s := store(none, x, y, fun("f", z, a), variable(3), variable(4), b)
	for _, c := range []struct{ t, wanted api.Term }{
		{x, x}, {y, x}, {z, x}, {variable(3), fun("f", z, a)}, {variable(4), fun("f", z, a)}, {variable(5), fun("f", z, a)}, {variable(6), b},
		{fun("g", variable(5), y), fun("g", variable(5), y)}, {vec(), vec()}, {a, a}, {integer(-3), integer(-3)}, {str("x"), str("x")},
	} {
		value, e := unify.Value(s, c.t)
		wantTerm(t, "Value", value, e, c.wanted)
	}
	value, e := unify.Value(chained(api.MaxVar), variable(api.MaxVar-1))
	wantTerm(t, "a long chain", value, e, x)
}

// TestP3_2_Whole: whole values up to the limits of terms, and beyond them.
func TestP3_2_Whole(t *testing.T) {
	s := store(none, broad(3998, x), chain(599, x), fun("g", y, z), variable(1), broad(1999, x), broad(2000, x))
	for _, c := range []struct {
		name  string
		t     api.Term
		nodes int
		depth int
		e     api.Errno
	}{
		{"a chain", variable(4), 3998, 3, api.OK},
		{"most nodes", fun("g", y, a), 4000, 4, api.OK},
		{"a node too many", fun("g", y, a, a), 0, 0, api.ErrLimit},
		{"two that are large", fun("g", variable(5), variable(6)), 4000, 4, api.OK},
		{"two that are too large", fun("g", variable(6), variable(6)), 0, 0, api.ErrLimit},
		{"two that are much too large", variable(3), 0, 0, api.ErrLimit},
		{"deepest", fun("f", z), 600, 600, api.OK},
		{"too deep", fun("f", fun("f", z)), 0, 0, api.ErrLimit},
		{"too deep last", fun("g", z, fun("f", z)), 0, 0, api.ErrLimit},
		{"an argument at the limit", broad(4000, a), 4000, 3, api.OK},
		{"an argument at the limit, with a variable", broad(4000, x), 4000, 3, api.OK},
		{"an argument at the limit, with a variable that is bound to more", broad(4000, variable(5)), 0, 0, api.ErrLimit},
	} {
		whole, e := unify.Whole(s, c.t)
		if e != c.e || e != api.OK && !equal(whole, none) {
			t.Errorf("%s: got a term of kind %d, error %d, want %d", c.name, whole.Kind, e, c.e)
		}
		if e == api.OK {
			nodes, depth := term.Size(whole)
			want(t, c.name, nodes, c.nodes)
			want(t, c.name, depth, c.depth)
			want(t, c.name, term.Check(whole), api.OK)
		}
	}
	for name, u := range map[string]api.Store{"doubled": doubled(64), "doubled far": doubled(api.MaxVar), "nested": nested(api.MaxVar)} {
		whole, e := unify.Whole(u, x)
		if e != api.ErrLimit || !equal(whole, none) {
			t.Errorf("%s: error %d", name, e)
		}
	}
	whole, e := unify.Whole(nested(600), x)
	wantTerm(t, "nested", whole, e, chain(600, variable(599)))
	whole, e = unify.Whole(doubled(11), x)
	nodes, _ := term.Size(whole)
	want(t, "doubled", nodes, 2047)
	want(t, "doubled", e, api.OK)
	_, e = unify.Whole(doubled(12), x)
	want(t, "doubled", e, api.ErrLimit)
}

// TestP3_2_Free: each variable once, by its first occurrence in the whole value, however large that is.
func TestP3_2_Free(t *testing.T) {
	w := variable(3)
	for _, c := range []struct {
		s      api.Store
		t      api.Term
		wanted []int
	}{
		{unbound(4), fun("g", z, x, z, y), []int{2, 0, 1}},
		{unbound(4), a, nil},
		{unbound(4), w, []int{3}},
		{store(none, x, fun("g", w, y), none), fun("g", z, x), []int{3, 0}},
		{store(none, x, fun("g", w, y), none), fun("g", y, z), []int{0, 3}},
		{store(fun("g", w, y), none, vec(x), none), vec(z, y, x), []int{3, 1}},
		{store(fun("g", y, z), a, fun("f", b), none), fun("f", x), nil},
		{store(none, x, x, y), fun("g", w, z, x), []int{0}},
		{store(fun("g", a, vec(z, y)), fun("f", w), none, none), fun("g", x, w, y, z), []int{2, 3}},
	} {
		free, e := unify.Free(c.s, c.t)
		wantNumbers(t, "Free", free, e, c.wanted...)
	}
	free, e := unify.Free(doubled(api.MaxVar), fun("g", variable(5), x))
	wantNumbers(t, "doubled", free, e, api.MaxVar-1)
	free, e = unify.Free(nested(api.MaxVar), x)
	wantNumbers(t, "nested", free, e, api.MaxVar-1)
	free, e = unify.Free(chained(api.MaxVar), fun("g", variable(api.MaxVar-1), x, variable(7)))
	wantNumbers(t, "chained", free, e, 0)
	free, e = unify.Free(unbound(4000), api.Term{Kind: api.KVec, L: []api.Term{variable(3999), variable(17)}})
	wantNumbers(t, "far", free, e, 3999, 17)
}

// TestP3_2_Same: kinds, numbers, names and elements tell terms apart; unbound variables are the same as themselves alone.
func TestP3_2_Same(t *testing.T) {
	s := store(none, x, none, a, fun("f", x), fun("f", y), vec(variable(4)))
	alike := [][]api.Term{
		{x, y}, {z}, {a, variable(3)}, {fun("f", x), variable(4), variable(5), fun("f", y)}, {variable(6), vec(variable(5)), vec(fun("f", x))},
		{b}, {str("a")}, {str("")}, {integer(0)}, {integer(1)}, {vec()}, {fun("f", z)}, {fun("f", a), fun("f", variable(3))}, {fun("g", x)}, {fun("f", x, x), fun("f", y, x)}, {vec(x)}, {vec(x, x)}, {fun("f", fun("f", x)), fun("f", variable(5))},
	}
	for i, l := range alike {
		for j, m := range alike {
			for _, p := range l {
				for _, q := range m {
					want(t, "Same", same(t, s, p, q), i == j)
				}
			}
		}
	}
	want(t, "a long chain", same(t, chained(api.MaxVar), variable(api.MaxVar-1), variable(7)), true)
	want(t, "two large ones that are one", same(t, doubled(api.MaxVar), x, x), true)
}

// nearly are terms such that to compare, or to unify, the first one with the other one takes so many pairs; the last one is that of two given terms.
func nearly(pairs int, p, q api.Term) (api.Store, api.Term, api.Term) {
	rest := (pairs - 1) - 5*3999
	s := store(broad(3999, a), broad(3999, a), broad(rest, p), broad(rest, q), none, none)
	return s, fun("h", x, x, x, x, x, z), fun("h", y, y, y, y, y, variable(3))
}

// TestP3_2_Work: 20000 pairs are compared, and no more.
func TestP3_2_Work(t *testing.T) {
	for _, c := range []struct {
		pairs  int
		p, q   api.Term
		wanted bool
		e      api.Errno
	}{
		{19999, a, a, true, api.OK}, {20000, a, a, true, api.OK}, {20001, a, a, false, api.ErrLimit}, {20005, a, a, false, api.ErrLimit},
		{19999, a, b, false, api.OK}, {20000, a, b, false, api.OK}, {20001, a, b, false, api.ErrLimit},
		{20000, variable(4), variable(4), true, api.OK}, {20000, variable(4), variable(5), false, api.OK}, {20001, variable(4), variable(4), false, api.ErrLimit}, {20001, variable(4), variable(5), false, api.ErrLimit},
		{20000, fun("f", a), b, false, api.OK}, {20000, fun("f", a), fun("f", a), false, api.ErrLimit}, {20000, fun("f", a), fun("f", a, a), false, api.OK}, {19999, fun("f", a), fun("f", a), true, api.OK}, {19999, fun("f", a), fun("f", b), false, api.OK},
	} {
		s, p, q := nearly(c.pairs, c.p, c.q)
		is, e := unify.Same(s, p, q)
		if is != c.wanted || e != c.e {
			t.Errorf("%d pairs, %v and %v: got %v, error %d", c.pairs, c.p, c.q, is, e)
		}
	}
	ground := doubled(40)
	ground.B[39] = a
	s, p := beside(t, ground, ground, x)
	is, e := unify.Same(s, x, p)
	if is || e != api.ErrLimit {
		t.Errorf("two large ones: got %v, error %d", is, e)
	}
	is, e = unify.Same(s, fun("g", a, x), fun("g", b, p))
	if is || e != api.OK {
		t.Errorf("a difference ahead: got %v, error %d", is, e)
	}
	is, e = unify.Same(s, fun("g", x, a), fun("g", p, b))
	if is || e != api.ErrLimit {
		t.Errorf("a difference behind: got %v, error %d", is, e)
	}
	// The same variable is one pair, whatever it is bound to; the same structure is gone through.
	want(t, "the same variables", same(t, s, vec(x, x, p), vec(x, x, p)), true)
	want(t, "a variable and its binding", same(t, s, x, fun("g", y, y)), true)
}

// TestP3_2_Errors: stores are looked at first, then terms, then limits.
func TestP3_2_Errors(t *testing.T) {
	calls := map[string]func(s api.Store, p, q api.Term) (api.Errno, bool){
		"Value": func(s api.Store, p, _ api.Term) (api.Errno, bool) {
			out, e := unify.Value(s, p)
			return e, equal(out, none)
		},
		"Whole": func(s api.Store, p, _ api.Term) (api.Errno, bool) {
			out, e := unify.Whole(s, p)
			return e, equal(out, none)
		},
		"Free": func(s api.Store, p, _ api.Term) (api.Errno, bool) {
			out, e := unify.Free(s, p)
			return e, len(out) == 0
		},
		"Same": func(s api.Store, p, q api.Term) (api.Errno, bool) {
			is, e := unify.Same(s, p, q)
			return e, !is
		},
		"Unify": func(s api.Store, p, q api.Term) (api.Errno, bool) {
			out, is, e := unify.Unify(s, p, q)
			return e, !is && len(out.B) == 0
		},
		"Ask": func(s api.Store, p, q api.Term) (api.Errno, bool) {
			answer, vars, e := unify.Ask(s, p, q)
			return e, answer == 0 && len(vars) == 0
		},
	}
	wrong := append(bad(), none, variable(64), fun("f", a, vec(x, variable(64))))
	for name, call := range calls {
		check := func(what string, s api.Store, p, q api.Term, wanted api.Errno) {
			if e, empty := call(s, p, q); e != wanted || !empty {
				t.Errorf("%s, %s: error %d, want %d; alone: %v", name, what, e, wanted, empty)
			}
		}
		for what, s := range badStores() {
			check(what, s, x, x, api.ErrStore)
			check(what, s, none, variable(-1), api.ErrStore)
		}
		for _, p := range wrong {
			check("no term over the store", doubled(64), p, p, api.ErrTerm)
			check("no term over the store", doubled(64), p, x, api.ErrTerm)
			if name != "Value" && name != "Whole" && name != "Free" {
				check("no term over the store, second", doubled(64), x, p, api.ErrTerm)
				check("no term over the store, behind a large one", doubled(64), broad(4000, x), p, api.ErrTerm)
			}
		}
	}
}
