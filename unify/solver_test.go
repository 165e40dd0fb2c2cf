package unify_test

import (
	"math"
	"math/rand"
	"slices"
	"testing"

	"riparian/api"
	"riparian/unify"
)

// open is Open where there is no error.
func open(t *testing.T, s api.Store) *unify.Solver {
	t.Helper()
	w, e := unify.Open(s)
	if e != api.OK || w == nil {
		t.Fatalf("Open of %v: error %d", s.B, e)
	}
	return w
}

// TestP3_5_Examples: the example of a solver.
func TestP3_5_Examples(t *testing.T) {
	w := open(t, unbound(1))
	v, e := w.Var()
	want(t, "Var", v, 1)
	want(t, "Var", e, api.OK)
	is, e := w.Unify(x, y)
	want(t, "Unify", is, true)
	want(t, "Unify", e, api.OK)
	want(t, "Mark", w.Mark(), 2)
	want(t, "Back", w.Back(1), api.OK)
	wantStore(t, "Store", w.Store(), api.OK, none, none)
}

// TestP3_5_Open: stores that are valid are opened, and no others.
func TestP3_5_Open(t *testing.T) {
	for _, s := range small() {
		w := open(t, s)
		wantStore(t, "Open", w.Store(), api.OK, s.B...)
		want(t, "Mark", w.Mark(), 0)
	}
	want(t, "empty", len(open(t, api.Store{}).Store().B), 0)
	for name, s := range badStores() {
		w, e := unify.Open(s)
		if w != nil || e != api.ErrStore {
			t.Errorf("%s: error %d", name, e)
		}
	}
}

// TestP3_5_Var: variables are numbered on, up to 100000.
func TestP3_5_Var(t *testing.T) {
	w := open(t, store(none, x))
	for v := range api.MaxVar - 2 {
		got, e := w.Var()
		if got != v+2 || e != api.OK {
			t.Fatalf("Var: got %d, error %d, want %d", got, e, v+2)
		}
	}
	want(t, "Mark", w.Mark(), api.MaxVar-2)
	for range 2 {
		got, e := w.Var()
		want(t, "one more", got, 0)
		want(t, "one more", e, api.ErrLimit)
	}
	want(t, "Mark", w.Mark(), api.MaxVar-2)
	is, e := w.Unify(variable(api.MaxVar-1), fun("f", y))
	want(t, "Unify", is && e == api.OK, true)
	want(t, "Back", w.Back(1), api.OK)
	wantStore(t, "Store", w.Store(), api.OK, none, x, none)
	got, e := w.Var()
	want(t, "the next one", got, 3)
	want(t, "the next one", e, api.OK)
}

// TestP3_5_Value: values in the store as it is.
func TestP3_5_Value(t *testing.T) {
	w := open(t, store(none, x, none, none))
	check := func(p, wanted api.Term) {
		t.Helper()
		got, e := w.Value(p)
		wantTerm(t, "Value", got, e, wanted)
	}
	check(y, x)
	check(z, z)
	want(t, "Back", w.Back(0), api.OK)
	is, _ := w.Unify(x, fun("f", z))
	want(t, "Unify", is, true)
	check(y, fun("f", z))
	is, _ = w.Unify(variable(3), z)
	want(t, "Unify", is, true)
	check(variable(3), z)
	is, _ = w.Unify(z, a)
	want(t, "Unify", is, true)
	check(variable(3), a)
	check(fun("g", y, z), fun("g", y, z))
	want(t, "Back", w.Back(1), api.OK)
	check(variable(3), variable(3))
	check(y, fun("f", z))
	for _, p := range append(bad(), none, variable(4), fun("f", vec(variable(4)))) {
		got, e := w.Value(p)
		if e != api.ErrTerm || !equal(got, none) {
			t.Errorf("Value of %v: error %d", p, e)
		}
	}
}

// TestP3_5_Unify: what fails, and what has an error, changes nothing.
func TestP3_5_Unify(t *testing.T) {
	s, p, q := nearly(20000, variable(4), fun("f", variable(5)))
	s, e := unify.More(s, 2)
	want(t, "More", e, api.OK)
	w := open(t, s)
	u, v := variable(6), variable(7)
	unchanged := func(name string, p, q api.Term, wanted api.Errno) {
		t.Helper()
		for range 2 {
			is, e := w.Unify(p, q)
			if is || e != wanted || w.Mark() != 0 || !equalStores(w.Store(), s) {
				t.Errorf("%s: got %v, error %d, want %d", name, is, e, wanted)
			}
			p, q = q, p
		}
	}
	unchanged("a difference behind bindings", vec(u, v, a), vec(fun("f", v), a, b), api.OK)
	unchanged("a circle", vec(u, v), vec(fun("f", v), fun("f", u)), api.OK)
	unchanged("a circle ahead of the limit", vec(u, p), vec(fun("f", u), q), api.OK)
	unchanged("the limit", vec(u, p, a), vec(v, q, a), api.ErrLimit)
	unchanged("no end", vec(u, v, v), vec(fun("f", u), fun("f", v), u), api.OK)
	for _, r := range append(bad(), none, variable(8), fun("f", vec(variable(8)))) {
		unchanged("no term over the store", r, u, api.ErrTerm)
		unchanged("no term over the store", r, p, api.ErrTerm)
	}
	is, e := w.Unify(p, q)
	want(t, "20000 pairs", is && e == api.OK, true)
	want(t, "Mark", w.Mark(), 1)
	wanted := copied(s.B)
	wanted[4] = fun("f", variable(5))
	wantStore(t, "Store", w.Store(), api.OK, wanted...)
}

// TestP3_5_Back: marks in range, and no others.
func TestP3_5_Back(t *testing.T) {
	w := open(t, unbound(2))
	want(t, "none", w.Back(1), api.ErrArg)
	want(t, "none", w.Back(0), api.OK)
	is, _ := w.Unify(vec(x, y), vec(a, b))
	want(t, "Unify", is, true)
	_, e := w.Var()
	want(t, "Var", e, api.OK)
	want(t, "two bindings, a variable", w.Mark(), 3)
	for _, mark := range []int{-1, 4, math.MinInt, math.MaxInt} {
		want(t, "no mark", w.Back(mark), api.ErrArg)
	}
	wantStore(t, "Store", w.Store(), api.OK, a, b, none)
	want(t, "where it is", w.Back(3), api.OK)
	wantStore(t, "Store", w.Store(), api.OK, a, b, none)
	want(t, "one back", w.Back(2), api.OK)
	wantStore(t, "Store", w.Store(), api.OK, a, b)
	want(t, "between the two bindings of one unification", w.Back(1), api.OK)
	wantStore(t, "Store", w.Store(), api.OK, a, none)
	want(t, "undone ones are no more", w.Back(2), api.ErrArg)
	want(t, "to the beginning", w.Back(0), api.OK)
	wantStore(t, "Store", w.Store(), api.OK, none, none)
	want(t, "Mark", w.Mark(), 0)
}

// TestP3_5_Nil: a nil solver has an error, and nothing beside it; one that does not come from Open does no harm.
func TestP3_5_Nil(t *testing.T) {
	var w *unify.Solver
	v, e := w.Var()
	want(t, "Var", v, 0)
	want(t, "Var", e, api.ErrArg)
	for _, p := range []api.Term{a, x, none} {
		got, e := w.Value(p)
		want(t, "Value", e, api.ErrArg)
		want(t, "Value", equal(got, none), true)
		is, e := w.Unify(p, p)
		want(t, "Unify", is, false)
		want(t, "Unify", e, api.ErrArg)
	}
	want(t, "Mark", w.Mark(), 0)
	for _, mark := range []int{0, 1, -1} {
		want(t, "Back", w.Back(mark), api.ErrArg)
	}
	want(t, "Store", len(w.Store().B), 0)
	empty := &unify.Solver{}
	v, e = empty.Var()
	want(t, "Var of an empty one", v, 0)
	want(t, "Var of an empty one", e, api.OK)
	is, e := empty.Unify(x, a)
	want(t, "Unify of an empty one", is && e == api.OK, true)
	want(t, "Back of an empty one", empty.Back(0), api.OK)
	want(t, "Store of an empty one", len(empty.Store().B), 0)
}

// solverRun does by chance what a solver can do, and the same by Unify and More; it goes back, time and again, to stores that were seen. There is one for each mark.
func solverRun(t *testing.T, r *rand.Rand, steps int) {
	s := madeStore(r, 1+r.Intn(4))
	w := open(t, s)
	seen := []api.Store{s}
	for range steps {
		n := len(s.B)
		switch r.Intn(5) {
		case 0:
			v, e := w.Var()
			want(t, "Var", v, n)
			want(t, "Var", e, api.OK)
			s, e = unify.More(s, 1)
			want(t, "More", e, api.OK)
			seen = append(seen, s)
		case 1:
			mark := len(seen) - 1 - r.Intn(min(len(seen), 6))
			want(t, "Back", w.Back(mark), api.OK)
			s, seen = seen[mark], seen[:mark+1]
		default:
			p, q := madePair(r, 3, numbers(n))
			next, wanted := unified(t, s, p, q)
			is, e := w.Unify(p, q)
			if is != wanted || e != api.OK {
				t.Errorf("Unify of %v and %v in %v: got %v, error %d", p, q, s.B, is, e)
			}
			if is {
				seen = append(seen, onTheWay(s, p, q)...)
			}
			s = next
		}
		want(t, "Mark", w.Mark(), len(seen)-1)
		wantStore(t, "Store", w.Store(), api.OK, s.B...)
		wantStore(t, "the last one that was seen", seen[len(seen)-1], api.OK, s.B...)
		p := made(r, 2, numbers(len(s.B)))
		got, e := w.Value(p)
		value, _ := unify.Value(s, p)
		wantTerm(t, "Value", got, e, value)
	}
}

// onTheWay returns the stores behind each binding of a unification that succeeds.
func onTheWay(s api.Store, p, q api.Term) []api.Store {
	m := model{b: slices.Clone(s.B)}
	m.unify(p, q, true)
	var out []api.Store
	for _, v := range slices.Backward(m.bound) {
		out = append(out, api.Store{B: slices.Clone(m.b)})
		m.b[v] = none
	}
	slices.Reverse(out)
	return out
}

// TestP3_12_Undone: a solver does what Unify and More do, and goes back to what was.
func TestP3_12_Undone(t *testing.T) {
	r := rand.New(rand.NewSource(312))
	for range 2000 {
		solverRun(t, r, 25)
	}
}

// TestP3_12_Each: each mark leads back to the store of its time, also between the bindings of one unification.
func TestP3_12_Each(t *testing.T) {
	s := store(none, x, none, none, none, none)
	left := vec(variable(5), z, fun("g", x, variable(3)), y)
	right := vec(z, y, fun("g", variable(4), vec(variable(5))), fun("f", a))
	w := open(t, s)
	is, e := w.Unify(left, right)
	want(t, "Unify", is && e == api.OK, true)
	stores := []api.Store{s,
		store(none, x, none, none, none, z),
		store(none, x, x, none, none, z),
		store(none, x, x, none, x, z),
		store(none, x, x, vec(variable(5)), x, z),
		store(fun("f", a), x, x, vec(variable(5)), x, z),
	}
	want(t, "Mark", w.Mark(), 5)
	for mark := 5; mark >= 0; mark-- {
		want(t, "Back", w.Back(mark), api.OK)
		wantStore(t, "Store", w.Store(), api.OK, stores[mark].B...)
	}
	for mark := range 6 {
		is, e = w.Unify(left, right)
		want(t, "Unify", is && e == api.OK, true)
		wantStore(t, "again", w.Store(), api.OK, stores[5].B...)
		want(t, "Back", w.Back(mark), api.OK)
		wantStore(t, "Store", w.Store(), api.OK, stores[mark].B...)
	}
}
