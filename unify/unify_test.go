package unify_test

import (
	"testing"

	"riparian/api"
	"riparian/unify"
)

// TestP3_3_Examples: the examples of Unify.
func TestP3_3_Examples(t *testing.T) {
	three := unbound(3)
	for _, c := range []struct {
		name   string
		p, q   api.Term
		is     bool
		wanted api.Store
	}{
		{"two variables", x, y, true, store(none, x, none)},
		{"a chain", fun("f", x, y), fun("f", y, a), true, store(a, x, none)},
		{"a chain of three", fun("f", z, y), fun("f", y, x), true, store(none, x, y)},
		{"itself within", x, fun("f", x), false, three},
		{"each within the other one", fun("f", x, y), fun("f", fun("g", y), fun("g", x)), false, three},
		{"other names", fun("f", x), fun("g", x), false, three},
		{"other numbers of elements", vec(x), vec(), false, three},
	} {
		got, is := unified(t, three, c.p, c.q)
		if is != c.is || !equalStores(got, c.wanted) {
			t.Errorf("%s: got %v, %v, want %v", c.name, got.B, is, c.wanted.B)
		}
	}
}

// TestP3_3_Bindings: which variable is bound, and to what: a value as it stands in the store.
func TestP3_3_Bindings(t *testing.T) {
	w := variable(3)
	for _, c := range []struct {
		name      string
		s, wanted api.Store
		p, q      api.Term
	}{
		{"the greater one", unbound(4), store(none, none, none, y), y, w},
		{"the greater one, first", unbound(4), store(none, none, none, y), w, y},
		{"ends of chains", store(none, none, y, x), store(none, x, y, x), z, w},
		{"ends of chains, first", store(none, none, y, x), store(none, x, y, x), w, z},
		{"a greater one behind a chain", store(none, x, none, z), store(none, x, x, z), y, w},
		{"a variable and a structure", unbound(4), store(none, fun("g", x, z), none, none), y, fun("g", x, z)},
		{"a structure and a variable", unbound(4), store(none, fun("g", x, z), none, none), fun("g", x, z), y},
		{"a lesser variable and a structure", unbound(4), store(fun("f", w), none, none, none), x, fun("f", w)},
		{"a variable that is bound to a structure", store(none, none, fun("f", w), none), store(none, fun("f", w), fun("f", w), none), y, z},
		{"a chain to a structure", store(none, fun("f", x), y, none), store(none, fun("f", x), y, fun("f", x)), w, z},
		{"a structure with variables that are bound", store(none, x, y, none), store(none, x, y, fun("g", z, y)), w, fun("g", z, y)},
		{"the end of a chain", store(none, x, y, none), store(a, x, y, none), z, a},
		{"elements, left to right", unbound(4), store(fun("f", y), none, y, none), fun("g", x, x), fun("g", fun("f", y), fun("f", z))},
		{"left first", unbound(4), store(a, none, none, x), fun("g", w, x), fun("g", x, a)},
		{"right first", unbound(4), store(a, none, none, a), fun("g", x, w), fun("g", a, x)},
		{"elements in vectors", unbound(4), store(str("s"), integer(7), vec(), none), vec(x, y, z), vec(str("s"), integer(7), vec())},
		{"nothing to bind", store(none, x, none, a), store(none, x, none, a), fun("g", x, a), fun("g", y, w)},
		{"the same variable", unbound(4), unbound(4), x, x},
		{"the same structure", unbound(4), unbound(4), fun("g", x, vec(y)), fun("g", x, vec(y))},
		{"what was bound just now", unbound(4), store(fun("f", y), a, none, none), vec(x, x), vec(fun("f", y), fun("f", a))},
		{"depth first", unbound(4), store(none, none, x, x), vec(fun("g", z, w), x), vec(fun("g", x, z), w)},
	} {
		got, is := unified(t, c.s, c.p, c.q)
		if !is || !equalStores(got, c.wanted) {
			t.Errorf("%s: got %v, %v, want %v", c.name, got.B, is, c.wanted.B)
		}
	}
}

// TestP3_3_Fails: what cannot be made the same; then the store is as it was.
func TestP3_3_Fails(t *testing.T) {
	s := store(none, fun("f", x), none, a, vec(y, z))
	w := variable(4)
	for _, c := range []struct {
		name string
		p, q api.Term
	}{
		{"atoms", a, b}, {"an atom and a string", a, str("a")}, {"integers", integer(1), integer(2)}, {"strings", str("a"), str("b")},
		{"kinds", vec(x), fun("f", x)}, {"an atom and a structure", atom("f"), fun("f", x)}, {"arities", fun("f", x), fun("f", x, x)},
		{"a variable that is bound", variable(3), b}, {"within", fun("g", x, a), fun("g", b, b)}, {"behind a binding", fun("g", z, a), fun("g", b, b)},
		{"bound just now", fun("g", z, z), fun("g", a, b)}, {"itself", x, fun("f", x)}, {"itself through a binding", x, y}, {"itself through two", x, w}, {"another one through one", z, vec(w)},
		{"a circle in two steps", fun("g", x, z), fun("g", vec(z), fun("f", x))}, {"a circle, then a difference", vec(x, a), vec(y, b)},
		{"a circle, then no end", vec(x, z, x), vec(fun("f", x), fun("f", z), z)}, {"a circle of two, then no end", vec(x, z, x), vec(fun("f", z), fun("f", x), z)},
		{"the circle first, then what does not end", vec(x, z, fun("g", x, z)), vec(fun("g", x, x), fun("g", z, z), fun("g", z, x))},
	} {
		for range 2 {
			got, is := unified(t, s, c.p, c.q)
			if is || !equalStores(got, s) {
				t.Errorf("%s: got %v, %v", c.name, got.B, is)
			}
			c.p, c.q = c.q, c.p
		}
	}
	got, is := unified(t, doubled(64), x, variable(63))
	want(t, "within a large value", is, false)
	want(t, "within a large value", equalStores(got, doubled(64)), true)
	far := nested(api.MaxVar)
	got, is = unified(t, far, x, variable(api.MaxVar-1))
	want(t, "far within", is || !equalStores(got, far), false)
	got, is = unified(t, far, variable(api.MaxVar-1), a)
	want(t, "the end of many", is && equal(got.B[api.MaxVar-1], a), true)
}

// TestP3_3_Work: 20000 pairs are unified, and no more.
func TestP3_3_Work(t *testing.T) {
	v, w := variable(4), variable(5)
	for _, c := range []struct {
		pairs int
		p, q  api.Term
		is    bool
		e     api.Errno
	}{
		{19999, a, a, true, api.OK}, {20000, a, a, true, api.OK}, {20001, a, a, false, api.ErrLimit},
		{20000, a, b, false, api.OK}, {20001, a, b, false, api.ErrLimit},
		{20000, v, w, true, api.OK}, {20001, v, w, false, api.ErrLimit}, {20000, v, fun("f", w), true, api.OK}, {20001, v, fun("f", w), false, api.ErrLimit},
		{20000, v, fun("f", v), false, api.OK}, {20001, v, fun("f", v), false, api.ErrLimit}, {20000, fun("f", v), fun("f", w), false, api.ErrLimit}, {19999, fun("f", v), fun("f", w), true, api.OK},
	} {
		s, p, q := nearly(c.pairs, c.p, c.q)
		got, is, e := unify.Unify(s, p, q)
		if is != c.is || e != c.e {
			t.Errorf("%d pairs, %v and %v: got %v, error %d", c.pairs, c.p, c.q, is, e)
		}
		if e != api.OK {
			wantNoStore(t, "Unify", got, e, c.e)
		} else if !is {
			want(t, "the store as it was", equalStores(got, s), true)
		}
	}
	// Where unification fails ahead of the limit it fails, also where going on could not end.
	s, p := beside(t, doubled(40), doubled(40), x)
	last := len(s.B)
	s, e := unify.More(s, 2)
	want(t, "More", e, api.OK)
	v, w = variable(last), variable(last+1)
	for _, c := range []struct {
		name string
		p, q api.Term
		e    api.Errno
	}{
		{"a difference ahead", vec(v, a, x), vec(fun("f", w), b, p), api.OK},
		{"a circle ahead", vec(v, x), vec(fun("f", v), p), api.OK},
		{"a circle of two ahead", vec(v, w, x), vec(fun("f", w), fun("f", v), p), api.OK},
		{"a circle ahead in which it goes on", vec(v, w, v), vec(fun("f", v), fun("f", w), w), api.OK},
		{"a difference behind", vec(v, x, a), vec(fun("f", w), p, b), api.ErrLimit},
		{"a circle behind", vec(x, v), vec(p, fun("f", v)), api.ErrLimit},
		{"no circle", vec(v, w, x), vec(fun("f", w), a, p), api.ErrLimit},
	} {
		got, is, e := unify.Unify(s, c.p, c.q)
		if is || e != c.e || e == api.OK && !equalStores(got, s) || e != api.OK && len(got.B) != 0 {
			t.Errorf("%s: got %v, error %d, want %d", c.name, is, e, c.e)
		}
	}
}

// TestP3_3_Shared: terms that share parts, in memory and in the store, are bound and kept apart.
func TestP3_3_Shared(t *testing.T) {
	part := fun("g", x, y)
	both := vec(part, part)
	got, is := unified(t, unbound(4), vec(z, both), vec(part, variable(3)))
	want(t, "shared in memory", is, true)
	wantStore(t, "shared in memory", got, api.OK, none, none, part, both)
	got, is = unified(t, doubled(20), x, fun("g", variable(1), variable(2)))
	want(t, "a value and a part of it", is, false)
	want(t, "a value and a part of it", equalStores(got, doubled(20)), true)
	got, is = unified(t, store(fun("g", z, z), fun("g", z, variable(3)), none, none), x, y)
	want(t, "shared in the store", is, true)
	wantStore(t, "shared in the store", got, api.OK, fun("g", z, z), fun("g", z, variable(3)), none, z)
}
