package term_test

import (
	"math/rand"
	"testing"

	"riparian/api"
	"riparian/term"
)

func general(t *testing.T, s, u api.Term) api.Term {
	t.Helper()
	got, e := term.General(s, u)
	return must(t, got, e)
}

// TestP1_6_General: what both have, and one variable for each two parts that differ.
func TestP1_6_General(t *testing.T) {
	for i, c := range []struct{ s, u, want api.Term }{
		{fun("f", a, fun("g", a), a), fun("f", b, fun("g", b), c), fun("f", x, fun("g", x), y)},
		{list(empty, a, b), list(empty, a), fun(".", a, x)},
		{x, x, x}, {z, z, x}, {y, z, x}, {a, a, a}, {a, b, x}, {a, str("a"), x}, {vec(), vec(), vec()}, {vec(), empty, x}, {integer(1), integer(2), x}, {integer(1), integer(1), integer(1)},
		{fun("f", z, z), fun("f", z, y), fun("f", x, y)}, {fun("f", z, y, z), fun("f", z, y, z), fun("f", x, y, x)},
		{fun("f", a, b), fun("f", b, a), fun("f", x, y)}, {fun("f", a, a), fun("f", b, b), fun("f", x, x)}, {fun("f", a, a), fun("f", b, c), fun("f", x, y)},
		{fun("f", fun("g", a)), fun("f", fun("g", a, b)), fun("f", x)}, {fun("f", a), fun("g", a), x}, {vec(a), vec(a, b), x},
		{fun("f", x, a), fun("f", a, x), fun("f", x, y)},
		{fun("f", str("1"), str("1 ")), fun("f", str(" 1"), str("1")), fun("f", x, y)},
		{fun("f", vec(a), fun("g", a)), fun("f", b, b), fun("f", x, y)},
		{fun("f", vec(a), vec(a)), fun("f", b, b), fun("f", x, x)},
		{broad(4000), broad(4000), broad(4000)},
	} {
		got, e := term.General(c.s, c.u)
		if e != api.OK || !equal(got, c.want) {
			t.Errorf("%d: %v, error %d", i, got, e)
		}
	}
	for _, w := range bad() {
		for _, pair := range [][2]api.Term{{w, a}, {a, w}, {w, w}} {
			got, e := term.General(pair[0], pair[1])
			wantNoTerm(t, "bad", got, e, api.ErrTerm)
		}
	}
}

// TestP1_6_GeneralKeys: parts that differ are told from each other, however their texts look.
func TestP1_6_GeneralKeys(t *testing.T) {
	odd := []api.Term{
		str("1"), str("11"), str(" 1"), str("1 "), str("4 0 0 1 "), str("4 0 0 1 1"), str(""), integer(1), integer(11), integer(-1), atom("1"), atom("11"), atom("1 1"),
		fun("1", integer(1)), fun("1", integer(1), integer(1)), fun("11", integer(1)), vec(integer(1)), vec(integer(1), integer(1)), vec(integer(11)), vec(), vec(vec()), vec(vec(), vec()), vec(vec(vec())),
	}
	var left, right []api.Term
	for i, s := range odd {
		for j, u := range odd {
			if i != j && !sameTop(s, u) {
				left, right = append(left, s), append(right, u)
			}
		}
	}
	got := general(t, rows(left), rows(right))
	next := 0
	for _, row := range got.L {
		for _, v := range row.L {
			if v.Kind != api.KVar || v.N != next {
				t.Fatalf("the difference %d: %v", next, v)
			}
			next++
		}
	}
	want(t, "differences", next, len(left))
}

// sameTop reports whether two terms differ at most in what stands within them.
func sameTop(s, u api.Term) bool {
	return s.Kind == u.Kind && s.N == u.N && s.S == u.S && len(s.L) == len(u.L)
}

// rows lays a long list into vectors.
func rows(l []api.Term) api.Term {
	out := vec()
	for i := 0; i < len(l); i += 60 {
		out.L = append(out.L, vec(l[i:min(i+60, len(l))]...))
	}
	return out
}

// TestP1_7_General: it is a generalization, and the least one.
func TestP1_7_General(t *testing.T) {
	l := small()
	for _, s := range l {
		got := general(t, s, s)
		if is, _ := term.Variant(got, s); !is {
			t.Fatalf("%v with itself: %v", s, got)
		}
	}
	r := rand.New(rand.NewSource(7))
	for range 3000 {
		p := made(r, 4)
		s, u := subst(t, p, madeSubst(r)), subst(t, p, madeSubst(r))
		got := general(t, s, u)
		wantInstance(t, got, s)
		wantInstance(t, got, u)
		wantInstance(t, p, got) // p has both as instances: it is not less general
		if is, _ := term.Variant(got, general(t, u, s)); !is {
			t.Fatalf("%v and %v: the order matters", s, u)
		}
		normal, _, _ := term.Normal([]api.Term{got})
		wantTerm(t, "normal", got, api.OK, normal[0])
	}
}

func wantInstance(t *testing.T, p, s api.Term) {
	t.Helper()
	if _, is, e := term.Match(p, s); !is || e != api.OK {
		t.Fatalf("%v is no instance of %v", s, p)
	}
}

// TestP1_7_Least: no other small term lies between two terms and their general one.
func TestP1_7_Least(t *testing.T) {
	l := small()
	for _, s := range l {
		for _, u := range l[:60] {
			got := general(t, s, u)
			for _, p := range l {
				_, one, _ := term.Match(p, s)
				_, two, _ := term.Match(p, u)
				if one && two {
					wantInstance(t, p, got)
				}
			}
		}
	}
}

// TestP1_7_Three: of three terms it does not matter which two are taken first.
func TestP1_7_Three(t *testing.T) {
	r := rand.New(rand.NewSource(77))
	for range 3000 {
		p := made(r, 4)
		s, u, v := subst(t, p, madeSubst(r)), subst(t, p, madeSubst(r)), subst(t, p, madeSubst(r))
		first, second := general(t, general(t, s, u), v), general(t, s, general(t, u, v))
		if is, _ := term.Variant(first, second); !is {
			t.Fatalf("%v, %v and %v: %v or %v", s, u, v, first, second)
		}
	}
}
