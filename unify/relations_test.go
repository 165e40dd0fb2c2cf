package unify_test

import (
	"slices"
	"testing"

	"riparian/api"
	"riparian/unify"
)

// TestP3_4_Examples: the examples of Ask, Merge and Implies.
func TestP3_4_Examples(t *testing.T) {
	three := unbound(3)
	for i, c := range []struct {
		p, q   api.Term
		answer int
		vars   []int
	}{
		{x, a, api.Waits, []int{0}}, {fun("f", x), fun("g", y), api.No, nil}, {x, x, api.Yes, nil}, {fun("f", z, x), fun("f", x, y), api.Waits, []int{2, 0, 1}},
	} {
		answer, vars := ask(t, three, c.p, c.q)
		if answer != c.answer || !slices.Equal(vars, c.vars) {
			t.Errorf("%d: got %d, %v", i, answer, vars)
		}
	}
	got, is := merged(t, store(fun("f", y), none, none), store(none, a, x))
	want(t, "Merge", is, true)
	wantStore(t, "Merge", got, api.OK, fun("f", y), a, fun("f", y))
	want(t, "Implies", implies(t, store(a, a, none), store(none, x, none)), true)
	want(t, "Implies", implies(t, store(none, x, none), store(none, a, none)), false)
}

// TestP3_4_Ask: the three answers, and all variables on which the last one depends.
func TestP3_4_Ask(t *testing.T) {
	w, v := variable(3), variable(4)
	s := store(none, x, fun("f", w), none, vec(w, x))
	for i, c := range []struct {
		p, q   api.Term
		answer int
		vars   []int
	}{
		{x, y, api.Yes, nil}, {z, fun("f", w), api.Yes, nil}, {v, vec(w, y), api.Yes, nil}, {a, a, api.Yes, nil},
		{a, b, api.No, nil}, {z, fun("f", z), api.No, nil}, {x, fun("f", y), api.No, nil}, {w, v, api.No, nil}, {fun("g", x, a), fun("g", w, b), api.No, nil}, {fun("g", y, y), fun("g", a, b), api.No, nil},
		{y, a, api.Waits, []int{0}}, {a, y, api.Waits, []int{0}}, {y, w, api.Waits, []int{0, 3}}, {w, y, api.Waits, []int{3, 0}}, {x, z, api.Waits, []int{0, 3}}, {z, x, api.Waits, []int{3, 0}},
		{fun("g", v, a), fun("g", vec(a, w), a), api.Waits, []int{3, 0}}, {fun("g", z, a), fun("g", fun("f", y), a), api.Waits, []int{3, 0}}, {vec(x, w), vec(x, a), api.Waits, []int{0, 3}}, {fun("g", a, x), fun("g", a, v), api.No, nil},
	} {
		answer, vars := ask(t, s, c.p, c.q)
		if answer != c.answer || !slices.Equal(vars, c.vars) {
			t.Errorf("%d: got %d, %v", i, answer, vars)
		}
	}
	answer, vars := ask(t, extended(doubled(64), 66), fun("g", variable(65), x), fun("g", a, x))
	want(t, "a large value", answer == api.Waits && slices.Equal(vars, []int{65, 63}), true)
	answer, _ = ask(t, doubled(64), variable(63), x)
	want(t, "within a large value", answer, api.No)
}

// TestP3_4_AskWork: the limit of Same, and that of Unify, are those of Ask.
func TestP3_4_AskWork(t *testing.T) {
	v, w := variable(4), variable(5)
	for _, c := range []struct {
		pairs  int
		p, q   api.Term
		answer int
		e      api.Errno
	}{
		{20000, a, a, api.Yes, api.OK}, {20001, a, a, 0, api.ErrLimit}, {20000, a, b, api.No, api.OK}, {20001, a, b, 0, api.ErrLimit},
		{20000, v, w, api.Waits, api.OK}, {20000, v, fun("f", v), api.No, api.OK}, {20001, v, w, 0, api.ErrLimit}, {20001, v, v, 0, api.ErrLimit},
	} {
		s, p, q := nearly(c.pairs, c.p, c.q)
		answer, vars, e := unify.Ask(s, p, q)
		if answer != c.answer || e != c.e || (len(vars) > 0) != (answer == api.Waits) {
			t.Errorf("%d pairs, %v and %v: got %d, %v, error %d", c.pairs, c.p, c.q, answer, vars, e)
		}
		// A difference that bindings can take away lies ahead: Same ends there, Unify goes on.
		answer, vars, e = unify.Ask(s, vec(v, p), vec(a, q))
		is, _ := unify.Same(s, vec(v, p), vec(a, q))
		_, _, f := unify.Unify(s, vec(v, p), vec(a, q))
		if is || e != f || e != api.OK && (answer != 0 || len(vars) > 0) {
			t.Errorf("%d pairs, %v and %v, behind a difference: got %d, %v, error %d, want %d", c.pairs, c.p, c.q, answer, vars, e, f)
		}
	}
}

// TestP3_4_Merge: bindings of both, as they are met; what cannot be merged leaves nothing.
func TestP3_4_Merge(t *testing.T) {
	w := variable(3)
	for _, c := range []struct {
		name         string
		s, u, wanted api.Store
	}{
		{"nothing", api.Store{}, api.Store{}, api.Store{}},
		{"nothing and something", api.Store{}, store(a, none, y), store(a, none, y)},
		{"something and nothing", store(a, none, y), api.Store{}, store(a, none, y)},
		{"more behind", store(a), store(none, none, vec(x)), store(a, none, vec(x))},
		{"fewer behind", store(none, none, vec(x)), store(a), store(a, none, vec(x))},
		{"variables of more behind", store(none), store(fun("f", w), none, none, none), store(fun("f", w), none, none, none)},
		{"a binding of both", store(fun("f", y), none, none), store(fun("f", z), none, none), store(fun("f", y), none, y)},
		{"chains", store(none, none, none, z), store(none, none, y, x), store(none, x, y, z)},
		{"a chain the other way round", store(none, none, y, x), store(none, none, none, z), store(none, x, y, x)},
		{"values as they stand", store(none, fun("f", x), none), store(a, none, y), store(a, fun("f", x), fun("f", x))},
	} {
		got, is := merged(t, c.s, c.u)
		if !is || !equalStores(got, c.wanted) {
			t.Errorf("%s: got %v, %v, want %v", c.name, got.B, is, c.wanted.B)
		}
	}
	for name, c := range map[string][2]api.Store{
		"atoms": {store(a), store(b)}, "through a chain": {store(none, x, a), store(b, none, y)}, "a circle": {store(fun("f", y), none), store(none, fun("f", x))},
		"a circle through a variable": {store(none, fun("f", x)), store(none, x)}, "a circle of four": {store(fun("f", y), none, fun("f", w), none), store(none, fun("f", z), none, fun("f", x))},
		"behind": {store(none, none, fun("f", a), x), store(none, none, fun("f", x), b)},
	} {
		for range 2 {
			got, is, e := unify.Merge(c[0], c[1])
			if is || e != api.OK || len(got.B) != 0 {
				t.Errorf("%s: got %v, %v, error %d", name, got.B, is, e)
			}
			c[0], c[1] = c[1], c[0]
		}
	}
	for name, s := range map[string]api.Store{"chained": chained(api.MaxVar), "nested": nested(api.MaxVar), "unbound": unbound(api.MaxVar), "doubled": doubled(api.MaxVar)} {
		got, is := merged(t, s, s)
		want(t, name, is && equalStores(got, s), true)
		got, is = merged(t, s, unbound(3))
		want(t, name, is && equalStores(got, s), true)
		got, is = merged(t, unbound(3), s)
		want(t, name, is && len(got.B) == len(s.B) && equivalent(t, got, s), true)
	}
}

// What blocks of three variables are, beside those that take so many pairs behind 19996.
const (
	differs = 0
	circle  = -1
)

// blocks returns two stores: for each three variables the bindings of the second one, where they are unified or compared with those of the first one, take 19996 and some more pairs, differ, or close a circle.
func blocks(kinds ...int) (api.Store, api.Store) {
	var s, u []api.Term
	for i, kind := range kinds {
		p, q := variable(3*i), variable(3*i+1)
		switch kind {
		case differs:
			s, u = append(s, b, none, none), append(u, a, none, none)
		case circle:
			s, u = append(s, fun("f", q), none, none), append(u, none, fun("f", p), none)
		default:
			rest := broad(kind, a)
			s = append(s, broad(3999, a), broad(3999, a), fun("h", p, p, p, p, p, rest))
			u = append(u, none, none, fun("h", q, q, q, q, q, rest))
		}
	}
	return api.Store{B: s}, api.Store{B: u}
}

// TestP3_4_StoresWork: pairs are counted for each variable by itself; what comes first, in the order of variables, is told.
func TestP3_4_StoresWork(t *testing.T) {
	for _, c := range []struct {
		kinds []int
		is    bool
		e     api.Errno
	}{
		{[]int{4, 4, 4}, true, api.OK}, {[]int{5}, false, api.ErrLimit}, {[]int{4, 5, 4}, false, api.ErrLimit},
		{[]int{differs, 5}, false, api.OK}, {[]int{5, differs}, false, api.ErrLimit}, {[]int{4, differs, 5}, false, api.OK},
		{[]int{circle, 5}, false, api.OK}, {[]int{5, circle}, false, api.ErrLimit}, {[]int{4, 4, circle}, false, api.OK}, {[]int{circle, differs}, false, api.OK},
	} {
		s, u := blocks(c.kinds...)
		is, e := unify.Implies(s, u)
		if is != c.is || e != c.e {
			t.Errorf("Implies of %v: got %v, error %d", c.kinds, is, e)
		}
		got, is, e := unify.Merge(s, u)
		if is != c.is || e != c.e || is && !equalStores(got, s) || !is && len(got.B) != 0 {
			t.Errorf("Merge of %v: got %v, error %d", c.kinds, is, e)
		}
	}
}

// TestP3_4_Implies: bindings of one store hold in another one, or do not.
func TestP3_4_Implies(t *testing.T) {
	w := variable(3)
	for _, c := range []struct {
		name   string
		s, u   api.Store
		wanted bool
	}{
		{"nothing", api.Store{}, api.Store{}, true}, {"fewer, unbound", store(a), unbound(3), true}, {"fewer, bound", store(a), store(none, none, b), false},
		{"more", store(a, b), store(a), true}, {"more that matters", store(none, x), store(none, none), true},
		{"behind itself", store(none), store(none, none, y), false}, {"a variable behind", store(none), store(none, x), false},
		{"the same", store(fun("f", y), none, x), store(fun("f", y), none, x), true}, {"through others", store(fun("f", y), a, x), store(fun("f", a), none, fun("f", y)), true},
		{"another name", store(a), store(b), false}, {"less", store(fun("f", y), none), store(fun("f", y), a), false},
		{"a chain another way", store(none, x, x, x), store(none, x, y, z), true}, {"the same chain", store(none, x, y, z), store(none, x, x, y), true},
		{"a chain that is cut", store(none, x, none, z), store(none, x, y, none), false}, {"equal values, no chain", store(a, a, none), store(none, x, none), true},
		{"large equal values, no chain", store(fun("g", z, w), fun("g", w, z), none, z), store(none, x, none, none), true},
		{"variables that are not the same", store(none, none, none), store(none, x, none), false},
	} {
		want(t, c.name, implies(t, c.s, c.u), c.wanted)
	}
	for name, s := range map[string]api.Store{"chained": chained(api.MaxVar), "nested": nested(api.MaxVar), "unbound": unbound(api.MaxVar), "doubled": doubled(api.MaxVar)} {
		want(t, name, implies(t, s, s), true)
		want(t, name, implies(t, s, unbound(3)), true)
		want(t, name, implies(t, unbound(3), s), name == "unbound")
	}
}

// TestP3_4_Errors: both stores are looked at, the first one first, ahead of all else.
func TestP3_4_Errors(t *testing.T) {
	for name, s := range badStores() {
		for _, c := range [][2]api.Store{{s, unbound(3)}, {unbound(3), s}, {s, s}, {store(a), s}, {s, store(b)}} {
			got, is, e := unify.Merge(c[0], c[1])
			wantNoStore(t, name, got, e, api.ErrStore)
			implied, f := unify.Implies(c[0], c[1])
			if is || implied || f != api.ErrStore {
				t.Errorf("%s: got %v, %v, error %d", name, is, implied, f)
			}
		}
	}
}
