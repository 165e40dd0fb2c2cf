package unify_test

import (
	"math"
	"testing"

	"riparian/api"
	"riparian/unify"
)

// chained returns a store of n variables, each but the first one bound to the one ahead.
func chained(n int) api.Store {
	out := unbound(n)
	for v := 1; v < n; v++ {
		out.B[v] = variable(v - 1)
	}
	return out
}

// nested returns a store of n variables, each but the last one bound to a structure with the next one.
func nested(n int) api.Store {
	out := unbound(n)
	for v := range n - 1 {
		out.B[v] = fun("f", variable(v+1))
	}
	return out
}

// TestP3_1_Check: stores at the edges of each of the three conditions.
func TestP3_1_Check(t *testing.T) {
	for name, s := range map[string]api.Store{
		"empty": {}, "empty list": store(), "unbound": unbound(3), "largest": unbound(api.MaxVar),
		"lesser":             store(none, x),
		"example":            store(fun("f", y), a, none),
		"later ones":         store(fun("f", y, z), vec(z), none),
		"earlier ones":       store(none, fun("f", x), fun("g", y, x)),
		"shared":             store(fun("f", z, z), fun("g", z, x), none),
		"empty slice":        store(api.Term{L: []api.Term{}}, api.Term{Kind: api.KAtom, S: "a", L: []api.Term{}}),
		"last variable":      store(fun("f", z), none, none),
		"a chain":            store(none, x, y, z, fun("f", variable(3))),
		"long chain":         chained(api.MaxVar),
		"nested":             nested(api.MaxVar),
		"a large term":       store(broad(api.MaxNodes, y), none),
		"a deep term":        store(chain(api.MaxDeep, y), none),
		"all kinds":          store(integer(-api.MaxInt), atom("[]"), str(""), vec(), fun("f", x)),
		"diamond":            store(fun("g", y, z), fun("f", variable(3)), fun("f", variable(3)), none),
		"many large terms":   store(broad(4000, a), broad(4000, x), broad(4000, y)),
		"the same, reversed": store(none, fun("g", x, x), fun("g", y, y), fun("g", z, z)),
	} {
		want(t, name, unify.Check(s), api.OK)
	}
	for name, s := range badStores() {
		want(t, name, unify.Check(s), api.ErrStore)
	}
	circle := nested(api.MaxVar)
	circle.B[api.MaxVar-1] = fun("g", a, variable(5))
	want(t, "long circle", unify.Check(circle), api.ErrStore)
}

// TestP3_1_Examples: the examples of Check.
func TestP3_1_Examples(t *testing.T) {
	for i, c := range []struct {
		s api.Store
		e api.Errno
	}{
		{store(y, none, none), api.ErrStore}, {store(none, x, none), api.OK}, {store(fun("f", y), a, none), api.OK},
		{store(fun("f", x), none, none), api.ErrStore}, {store(fun("f", y), fun("g", x), none), api.ErrStore},
	} {
		if e := unify.Check(c.s); e != c.e {
			t.Errorf("%d: error %d, want %d", i, e, c.e)
		}
	}
}

// TestP3_1_New: as many unbound variables as are asked for.
func TestP3_1_New(t *testing.T) {
	for _, n := range []int{0, 1, 3, api.MaxVar} {
		got, e := unify.New(n)
		if e != api.OK || !equalStores(got, unbound(n)) {
			t.Errorf("New(%d): %d variables, error %d", n, len(got.B), e)
		}
	}
	for _, n := range []int{-1, api.MaxVar + 1, math.MinInt, math.MaxInt} {
		got, e := unify.New(n)
		wantNoStore(t, "New", got, e, api.ErrArg)
	}
}

// TestP3_1_More: bindings stay, and variables come behind.
func TestP3_1_More(t *testing.T) {
	s := store(fun("f", y), none, x)
	got, e := unify.More(s, 0)
	wantStore(t, "none more", got, e, s.B...)
	got, e = unify.More(s, 2)
	wantStore(t, "two more", got, e, fun("f", y), none, x, none, none)
	got, e = unify.More(api.Store{}, 1)
	wantStore(t, "of the empty one", got, e, none)
	got, e = unify.More(s, api.MaxVar-3)
	if e != api.OK || len(got.B) != api.MaxVar || !equalStores(store(got.B[:3]...), s) || !equalStores(store(got.B[3:]...), unbound(api.MaxVar-3)) {
		t.Errorf("as many as can be: %d variables, error %d", len(got.B), e)
	}
	got, e = unify.More(unbound(api.MaxVar), 0)
	want(t, "none more of the largest one", len(got.B), api.MaxVar)
	want(t, "none more of the largest one", e, api.OK)
	for _, n := range []int{-1, -3, math.MinInt} {
		got, e = unify.More(s, n)
		wantNoStore(t, "fewer", got, e, api.ErrArg)
	}
	for _, n := range []int{api.MaxVar - 2, api.MaxVar, math.MaxInt} {
		got, e = unify.More(s, n)
		wantNoStore(t, "too many", got, e, api.ErrLimit)
	}
	for name, u := range badStores() {
		for _, n := range []int{0, -1, math.MaxInt} {
			got, e = unify.More(u, n)
			wantNoStore(t, name, got, e, api.ErrStore)
		}
	}
}
