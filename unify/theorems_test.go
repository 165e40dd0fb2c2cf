package unify_test

import (
	"math/rand"
	"slices"
	"strconv"
	"testing"

	"riparian/api"
	"riparian/term"
	"riparian/unify"
)

// implying returns those of some stores that imply one.
func implying(t *testing.T, stores []api.Store, s api.Store) []api.Store {
	t.Helper()
	var out []api.Store
	for _, u := range stores {
		if implies(t, u, s) {
			out = append(out, u)
		}
	}
	return out
}

// sample returns some of a list, by chance.
func sample[T any](r *rand.Rand, l []T, n int) []T {
	var out []T
	for range n {
		out = append(out, l[r.Intn(len(l))])
	}
	return out
}

// TestP3_6_MostGeneral: each store that implies s and in which both terms are the same implies that of Unify; if there is none, Unify fails.
func TestP3_6_MostGeneral(t *testing.T) {
	r := rand.New(rand.NewSource(36))
	stores := small()
	succeeded, failed, below := 0, 0, 0
	for _, s := range append([]api.Store{unbound(3), unbound(2), store(none, x)}, sample(r, stores, 60)...) {
		all := implying(t, stores, s)
		for range 60 {
			p, q := madePair(r, 3, numbers(len(s.B)))
			out, is := unified(t, s, p, q)
			if is {
				succeeded++
				want(t, "it implies the store", implies(t, out, s), true)
				want(t, "both are the same", same(t, out, p, q), true)
			} else {
				failed++
			}
			for _, u := range all {
				if len(u.B) < len(s.B) || !same(t, u, p, q) {
					continue
				}
				below++
				if !is || !implies(t, u, out) {
					t.Errorf("in %v %v and %v are the same, but not in %v", u.B, p, q, out.B)
				}
			}
		}
	}
	if succeeded < 500 || failed < 500 || below < 2000 {
		t.Errorf("too few were looked at: %d, %d, %d", succeeded, failed, below)
	}
}

// inOrder unifies equations in an order, those of some with their sides the other way round.
func inOrder(t *testing.T, s api.Store, l [][2]api.Term, order []int, swapped int) (api.Store, bool) {
	t.Helper()
	for _, i := range order {
		p, q := l[i][0], l[i][1]
		if swapped>>i&1 == 1 {
			p, q = q, p
		}
		out, is := unified(t, s, p, q)
		if !is {
			return s, false
		}
		s = out
	}
	return s, true
}

// TestP3_7_Order: any order of equations leads to equivalent stores, or fails; what was unified changes nothing.
func TestP3_7_Order(t *testing.T) {
	r := rand.New(rand.NewSource(37))
	succeeded, failed := 0, 0
	for range 1500 {
		n := 3 + r.Intn(4)
		s := madeStore(r, n)
		var l [][2]api.Term
		for range 3 {
			p, q := madePair(r, 3, numbers(n))
			l = append(l, [2]api.Term{p, q})
		}
		first, wanted := inOrder(t, s, l, []int{0, 1, 2}, 0)
		for _, order := range [][]int{{0, 1, 2}, {0, 2, 1}, {1, 0, 2}, {1, 2, 0}, {2, 0, 1}, {2, 1, 0}} {
			for swapped := range 8 {
				out, is := inOrder(t, s, l, order, swapped)
				if is != wanted || is && !equivalent(t, out, first) {
					t.Errorf("%v in %v, in the order %v: got %v, %v", l, s.B, order, out.B, is)
				}
			}
		}
		if !wanted {
			failed++
			continue
		}
		succeeded++
		for i := range l {
			again, is := unified(t, first, l[i][0], l[i][1])
			want(t, "again", is && equalStores(again, first), true)
			again, is = unified(t, first, l[i][1], l[i][0])
			want(t, "again, the other way round", is && equalStores(again, first), true)
		}
	}
	if succeeded < 200 || failed < 200 {
		t.Errorf("too few were looked at: %d, %d", succeeded, failed)
	}
}

// madeStores returns valid stores that have something to do with each other.
func madeStores(r *rand.Rand, count int) []api.Store {
	var out []api.Store
	for range count {
		s := madeStore(r, 2+r.Intn(4))
		for range r.Intn(3) {
			s.B[r.Intn(len(s.B))] = none
		}
		out = append(out, s)
	}
	return out
}

// TestP3_8_Merging: two or three stores are merged in any order; one is merged with itself.
func TestP3_8_Merging(t *testing.T) {
	r := rand.New(rand.NewSource(38))
	succeeded, failed := 0, 0
	for range 5000 {
		l := madeStores(r, 3)
		once, _ := merged(t, l[0], l[0])
		want(t, "idempotent", equivalent(t, once, l[0]), true)
		var outs []api.Store
		for _, o := range [][]int{{0, 1, 2}, {0, 2, 1}, {1, 0, 2}, {1, 2, 0}, {2, 0, 1}, {2, 1, 0}} {
			if first, is := merged(t, l[o[0]], l[o[1]]); is {
				if left, is := merged(t, first, l[o[2]]); is {
					outs = append(outs, left)
				}
				if right, is := merged(t, l[o[2]], first); is {
					outs = append(outs, right)
				}
			}
		}
		if len(outs) == 0 {
			failed++
			continue
		}
		succeeded++
		want(t, "in every order", len(outs), 12)
		for _, out := range outs {
			if !equivalent(t, out, outs[0]) || !implies(t, out, l[0]) || !implies(t, out, l[1]) || !implies(t, out, l[2]) {
				t.Errorf("merged of %v: %v and %v", l, out.B, outs[0].B)
			}
		}
	}
	if succeeded < 200 || failed < 200 {
		t.Errorf("too few were looked at: %d, %d", succeeded, failed)
	}
}

// TestP3_8_Least: each store that implies both implies the merged one; if there is none, Merge fails.
func TestP3_8_Least(t *testing.T) {
	r := rand.New(rand.NewSource(380))
	stores := small()
	both := 0
	for range 1500 {
		s, u := stores[r.Intn(len(stores))], stores[r.Intn(len(stores))]
		out, is := merged(t, s, u)
		other, also := merged(t, u, s)
		want(t, "both fail, or none", also, is)
		want(t, "both ways", equivalent(t, out, other), true)
		for _, w := range implying(t, implying(t, stores, s), u) {
			both++
			if !is || !implies(t, w, out) {
				t.Errorf("%v implies %v and %v, but not %v", w.B, s.B, u.B, out.B)
			}
		}
	}
	if both < 300 {
		t.Errorf("too few were looked at: %d", both)
	}
}

// apart binds each free variable of a store to a term of its own, which stands nowhere else.
func apart(t *testing.T, s api.Store) api.Store {
	t.Helper()
	for v := range s.B {
		if s.B[v].Kind == 0 {
			s, _ = unified(t, s, variable(v), atom("only"+strconv.Itoa(v)))
		}
	}
	return s
}

// TestP3_9_Monotone: Yes and No stay; Waits can become either, and does so by the variables that are returned alone.
func TestP3_9_Monotone(t *testing.T) {
	r := rand.New(rand.NewSource(39))
	stores := small()
	var seen [4]int
	for _, s := range append([]api.Store{unbound(3), store(none, none, fun("f", x))}, sample(r, stores, 60)...) {
		all := implying(t, stores, s)
		for range 60 {
			p, q := madePair(r, 3, numbers(3))
			answer, vars := ask(t, s, p, q)
			for _, u := range all {
				bound := slices.ContainsFunc(vars, func(v int) bool { return u.B[v].Kind != 0 })
				later, _ := ask(t, u, p, q)
				if later != answer && (answer != api.Waits || !bound) {
					t.Errorf("%v and %v: %d in %v, %d in %v", p, q, answer, s.B, later, u.B)
				}
				seen[answer]++
			}
			if answer != api.Waits {
				want(t, "no variables", len(vars), 0)
				continue
			}
			out, is := unified(t, s, p, q)
			become, _ := ask(t, out, p, q)
			want(t, "it can become Yes", is && become == api.Yes, true)
			become, _ = ask(t, apart(t, s), p, q)
			want(t, "it can become No", become, api.No)
		}
	}
	if seen[api.Yes] < 2000 || seen[api.No] < 2000 || seen[api.Waits] < 2000 {
		t.Errorf("too few were looked at: %v", seen)
	}
}

// whole is Whole where there is no error.
func whole(t *testing.T, s api.Store, p api.Term) api.Term {
	t.Helper()
	out, e := unify.Whole(s, p)
	if e != api.OK {
		t.Fatalf("Whole of %v in %v: error %d", p, s.B, e)
	}
	return out
}

// TestP3_10_Whole: whole values stay as they are, have the variables of Free, and tell what is the same.
func TestP3_10_Whole(t *testing.T) {
	r := rand.New(rand.NewSource(310))
	alike := 0
	for range 20000 {
		n := 1 + r.Intn(7)
		s := madeStore(r, n)
		p, q := madePair(r, 3, numbers(n))
		value := whole(t, s, p)
		wantTerm(t, "Whole of Whole", whole(t, s, value), api.OK, value)
		vars, e := term.Vars([]api.Term{value})
		want(t, "Vars", e, api.OK)
		free, e := unify.Free(s, p)
		wantNumbers(t, "Free", free, e, vars...)
		free, e = unify.Free(s, value)
		wantNumbers(t, "Free of Whole", free, e, vars...)
		is := same(t, s, p, q)
		want(t, "Same", is, term.Same(value, whole(t, s, q)))
		want(t, "the same as its whole value", same(t, s, p, value), true)
		if is {
			alike++
		}
	}
	if alike < 500 {
		t.Errorf("too few were the same: %d", alike)
	}
}

// TestP3_10_Equivalent: stores are equivalent exactly if all variables have equal whole values, and so then have all terms.
func TestP3_10_Equivalent(t *testing.T) {
	stores := small()
	count := 0
	for _, s := range stores {
		for _, u := range stores {
			wanted := true
			for _, v := range numbers(3) {
				wanted = wanted && equal(whole(t, s, variable(v)), whole(t, u, variable(v)))
			}
			if equivalent(t, s, u) != wanted {
				t.Errorf("%v and %v: equivalent is not %v", s.B, u.B, wanted)
			}
			if !wanted || equalStores(s, u) {
				continue
			}
			count++
			for _, p := range terms() {
				wantTerm(t, "Whole", whole(t, s, p), api.OK, whole(t, u, p))
			}
		}
	}
	if count < 50 {
		t.Errorf("too few were equivalent: %d", count)
	}
}

// TestP3_11_Substitution: the whole value is what term.Subst makes of a term by the bindings, again and again.
func TestP3_11_Substitution(t *testing.T) {
	r := rand.New(rand.NewSource(311))
	often := 0
	for range 20000 {
		n := 1 + r.Intn(7)
		s := madeStore(r, n)
		p := made(r, 3, numbers(n))
		value := p
		for times := 0; ; times++ {
			next, e := term.Subst(value, s.B)
			want(t, "Subst", e, api.OK)
			if term.Same(next, value) {
				break
			}
			value = next
			if times == 2 {
				often++
			}
		}
		wantTerm(t, "Whole", whole(t, s, p), api.OK, value)
	}
	if often < 100 {
		t.Errorf("too few were substituted three times: %d", often)
	}
}

// TestP3_13_Implication: Implies is reflexive and transitive; a store implies what it becomes by taking bindings away.
func TestP3_13_Implication(t *testing.T) {
	r := rand.New(rand.NewSource(313))
	stores := append(small(), unbound(0), unbound(2), store(a), store(none, x))
	chains := 0
	for _, s := range stores {
		want(t, "reflexive", implies(t, s, s), true)
		for n := range 5 {
			u, _ := unify.New(n)
			want(t, "New", implies(t, s, u), true)
		}
		below := implying(t, stores, s)
		for _, u := range sample(r, below, 5) {
			for _, w := range implying(t, stores, u) {
				chains++
				if !implies(t, w, s) {
					t.Errorf("%v implies %v, and that %v", w.B, u.B, s.B)
				}
			}
		}
	}
	if chains < 1000 {
		t.Errorf("too few were looked at: %d", chains)
	}
	for range 5000 {
		s := madeStore(r, 1+r.Intn(7))
		u := api.Store{B: copied(s.B)}
		for v := range u.B {
			if r.Intn(2) == 0 {
				u.B[v] = none
			}
		}
		want(t, "with fewer bindings", implies(t, s, u), true)
		want(t, "with fewer variables", implies(t, s, store(unbound(len(s.B)-1).B...)), true)
	}
}

// TestP3_14_Acyclic: whatever is unified or merged, the store stays valid, and no variable is part of its own value.
func TestP3_14_Acyclic(t *testing.T) {
	r := rand.New(rand.NewSource(314))
	for range 4000 {
		n := 2 + r.Intn(6)
		s := madeStore(r, n)
		w := open(t, s)
		for range 8 {
			p, q := madePair(r, 3, numbers(n))
			s, _ = unified(t, s, p, q)
			_, e := w.Unify(p, q)
			want(t, "Unify", e, api.OK)
			if !isValid(s) || unify.Check(s) != api.OK || unify.Check(w.Store()) != api.OK {
				t.Fatalf("Unify of %v and %v led to %v", p, q, s.B)
			}
		}
		for v := range s.B {
			if s.B[v].Kind != 0 && slices.Contains(varsOf(whole(t, s, variable(v))), v) {
				t.Errorf("%d is part of its own value in %v", v, s.B)
			}
		}
		out, is := merged(t, s, madeStore(r, n))
		if is && (!isValid(out) || unify.Check(out) != api.OK) {
			t.Errorf("Merge led to %v", out.B)
		}
	}
}
