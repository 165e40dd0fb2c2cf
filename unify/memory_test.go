package unify_test

import (
	"slices"
	"testing"

	"riparian/api"
	"riparian/unify"
)

// memory is where lists of terms were seen to lie.
type memory map[*api.Term]bool

// claim notes the lists within some terms; it reports whether none of them lies where another one does.
func (m memory) claim(l []api.Term) bool {
	if len(l) == 0 {
		return true
	}
	if m[&l[0]] {
		return false
	}
	m[&l[0]] = true
	for _, t := range l {
		if !m.claim(t.L) {
			return false
		}
	}
	return true
}

// note notes lists that may lie where others do.
func (m memory) note(l []api.Term) {
	if len(l) > 0 {
		m[&l[0]] = true
	}
	for _, t := range l {
		m.note(t.L)
	}
}

// results are what all functions that return terms or stores make of the same arguments, in which lists lie at several places.
func results(s api.Store, p, q api.Term) map[string][]api.Term {
	out := map[string][]api.Term{}
	value, _ := unify.Value(s, p)
	variable, _ := unify.Value(s, x)
	whole, _ := unify.Whole(s, p)
	out["Value"], out["Value of a variable"], out["Whole"] = []api.Term{value}, []api.Term{variable}, []api.Term{whole}
	more, _ := unify.More(s, 1)
	out["More"] = more.B
	unified, _, _ := unify.Unify(s, p, q)
	failed, _, _ := unify.Unify(s, p, a)
	out["Unify"], out["Unify that fails"] = unified.B, failed.B
	merged, _, _ := unify.Merge(s, unified)
	out["Merge"] = merged.B
	w, _ := unify.Open(s)
	out["Store"] = w.Store().B
	w.Unify(p, q)
	out["Store behind Unify"] = w.Store().B
	out["Store again"] = w.Store().B
	value, _ = w.Value(p)
	variable, _ = w.Value(variable)
	of, _ := w.Value(z)
	out["Value of a solver"], out["Values of a solver"] = []api.Term{value}, []api.Term{variable, of}
	w.Back(1)
	out["Store behind Back"] = w.Store().B
	return out
}

// TestR2_Memory: what is returned is new memory, and no two lists of a result share any; arguments stay what they are.
func TestR2_Memory(t *testing.T) {
	shared := fun("g", y, vec(a))
	s := store(shared, none, none, shared, vec(shared, shared), none)
	p, q := vec(shared, z, variable(5), shared), vec(x, shared, vec(shared, shared), variable(3))
	before := []api.Store{{B: copied(s.B)}, store(copied([]api.Term{p, q})...)}
	seen := memory{}
	seen.note(s.B)
	seen.note([]api.Term{p, q})
	for name, l := range results(s, p, q) {
		if len(l) == 0 || !seen.claim(l) {
			t.Errorf("%s returns %d terms, and memory that is another one's", name, len(l))
		}
	}
	want(t, "the arguments", equalStores(s, before[0]) && equalStores(store(p, q), before[1]), true)
}

// spoil writes over all lists within terms.
func spoil(l []api.Term) {
	for i := range l {
		spoil(l[i].L)
		l[i] = atom("spoilt")
	}
}

// TestR2_Solver: a solver keeps nothing of what it was given, or has given.
func TestR2_Solver(t *testing.T) {
	s := store(fun("f", y), none, none, none)
	given := api.Store{B: copied(s.B)}
	w := open(t, given)
	spoil(given.B)
	_ = append(given.B[:0], a, b)
	wantStore(t, "opened", w.Store(), api.OK, s.B...)
	p, q := vec(fun("g", a, y), z), vec(z, variable(3))
	is, _ := w.Unify(p, q)
	want(t, "Unify", is, true)
	wanted := store(fun("f", y), none, fun("g", a, y), fun("g", a, y))
	spoil(p.L)
	spoil(q.L)
	wantStore(t, "unified", w.Store(), api.OK, wanted.B...)
	spoil(w.Store().B)
	value, _ := w.Value(z)
	spoil(value.L)
	wantStore(t, "given", w.Store(), api.OK, wanted.B...)
	want(t, "Back", w.Back(1), api.OK)
	wantStore(t, "behind Back", w.Store(), api.OK, fun("f", y), none, fun("g", a, y), none)
}

// TestR2_Numbers: lists of variables are new memory, too.
func TestR2_Numbers(t *testing.T) {
	s := unbound(4)
	first, _ := unify.Free(s, vec(x, y, z))
	second, _ := unify.Free(s, vec(x, y, z))
	_, third, _ := unify.Ask(s, vec(x, y, z), vec(a, a, a))
	first[0], third[1] = 7, 8
	want(t, "Free", slices.Equal(second, []int{0, 1, 2}), true)
	_, third, _ = unify.Ask(s, vec(x, y, z), vec(a, a, a))
	want(t, "Ask", slices.Equal(third, []int{0, 1, 2}), true)
}

// TestR3_Empty: nil and empty lists are alike, also within terms and stores.
func TestR3_Empty(t *testing.T) {
	zero := api.Term{L: []api.Term{}}
	s := store(zero, api.Term{Kind: api.KAtom, S: "a", L: []api.Term{}}, x, zero)
	out, is := unified(t, s, vec(zero, y).L[1], a)
	want(t, "Unify", is, true)
	wantStore(t, "Unify", out, api.OK, none, a, x, none)
	free, e := unify.Free(s, vec(z, variable(3), y))
	wantNumbers(t, "Free", free, e, 0, 3)
	want(t, "Same", same(t, s, api.Term{Kind: api.KVec, L: []api.Term{}}, vec()), true)
	out, is = merged(t, store(), s)
	want(t, "Merge", is, true)
	wantStore(t, "Merge", out, api.OK, none, a, x, none)
	want(t, "Implies", implies(t, s, store(zero, zero)) && implies(t, api.Store{}, store(zero)), true)
}

// TestR1_Huge: calls end and do not panic where arguments are far too large.
func TestR1_Huge(t *testing.T) {
	deep, wide := chain(65536, a), api.Term{Kind: api.KVec, L: make([]api.Term, 1000000)}
	for name, p := range map[string]api.Term{"deep": deep, "wide": wide} {
		want(t, name, unify.Check(store(p)), api.ErrStore)
		_, e := unify.Whole(unbound(1), p)
		want(t, name, e, api.ErrTerm)
		_, _, e = unify.Unify(unbound(1), x, p)
		want(t, name, e, api.ErrTerm)
		_, _, e = unify.Ask(unbound(1), p, p)
		want(t, name, e, api.ErrTerm)
		w := open(t, unbound(1))
		_, e = w.Unify(x, p)
		want(t, name, e, api.ErrTerm)
	}
	want(t, "many", unify.Check(unbound(1000000)), api.ErrStore)
	// A store as large as can be, in which each variable depends on the next one from deep within.
	far := unbound(api.MaxVar)
	for v := range api.MaxVar - 1 {
		far.B[v] = chain(20, variable(v+1))
	}
	want(t, "far", unify.Check(far), api.OK)
	free, e := unify.Free(far, x)
	wantNumbers(t, "far", free, e, api.MaxVar-1)
	_, is := unified(t, far, variable(api.MaxVar-1), fun("f", x))
	want(t, "far", is, false)
	far.B[api.MaxVar-1] = fun("f", x)
	want(t, "far", unify.Check(far), api.ErrStore)
}

// TestR1_LongChains: bindings of variables to variables take no time that grows with the square of how many there are.
func TestR1_LongChains(t *testing.T) {
	s := chained(api.MaxVar)
	last := variable(api.MaxVar - 1)
	row := api.Term{Kind: api.KVec, L: slices.Repeat([]api.Term{last}, api.MaxVec)}
	all := api.Term{Kind: api.KVec, L: slices.Repeat([]api.Term{row}, 60)}
	want(t, "Same", same(t, s, all, all), true)
	whole, e := unify.Whole(s, all)
	want(t, "Whole", e, api.OK)
	want(t, "Whole", equal(whole.L[59].L[63], x), true)
	out, is := unified(t, s, all, vec(append(slices.Repeat([]api.Term{row}, 59), vec(slices.Repeat([]api.Term{a}, api.MaxVec)...))...))
	want(t, "Unify", is && equal(out.B[0], a), true)
	w := open(t, s)
	is, e = w.Unify(last, a)
	want(t, "Unify", is && e == api.OK, true)
	for v := range api.MaxVar {
		value, _ := w.Value(variable(v))
		if !equal(value, a) {
			t.Fatalf("Value of %d: got %v", v, value)
		}
	}
}
