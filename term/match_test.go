package term_test

import (
	"math/rand"
	"slices"
	"testing"

	"riparian/api"
	"riparian/term"
)

// TestP1_5_Normal: variables by their first occurrence in all the terms together.
func TestP1_5_Normal(t *testing.T) {
	for i, c := range []struct {
		l, want []api.Term
		vars    []int
	}{
		{[]api.Term{fun("f", z, x), z}, []api.Term{fun("f", x, y), x}, []int{2, 0}},
		{nil, nil, nil}, {[]api.Term{a, integer(5)}, []api.Term{a, integer(5)}, nil},
		{[]api.Term{vec(variable(99999), integer(3)), y, fun("f", x, y)}, []api.Term{vec(x, integer(3)), y, fun("f", z, y)}, []int{99999, 1, 0}},
	} {
		got, vars, e := term.Normal(c.l)
		if e != api.OK || !equalAll(got, c.want) || !slices.Equal(vars, c.vars) {
			t.Errorf("%d: %v, %v, error %d", i, got, vars, e)
		}
	}
	for i, w := range append(bad(), broad(4000)) {
		if got, vars, e := term.Normal([]api.Term{x, w}); len(got) != 0 || len(vars) != 0 || e != api.ErrTerm {
			t.Errorf("bad %d: %d terms, %v, error %d", i, len(got), vars, e)
		}
	}
}

// TestP1_5_Variant: other names for variables, one for each.
func TestP1_5_Variant(t *testing.T) {
	for i, c := range []struct {
		s, u api.Term
		is   bool
	}{
		{fun("f", x, y), fun("f", variable(7), z), true}, {fun("f", x, y), fun("f", y, x), true}, {fun("f", x, x, y), fun("f", y, y, x), true},
		{fun("f", x, x), fun("f", x, y), false}, {fun("f", x, y), fun("f", x, x), false}, {x, a, false}, {a, x, false}, {a, a, true}, {a, b, false}, {x, z, true}, {integer(1), integer(2), false}, {fun("f", x), fun("f", x, y), false}, {fun("f", x), vec(x), false},
		{broad(4000), broad(4000), true},
	} {
		if is, e := term.Variant(c.s, c.u); is != c.is || e != api.OK {
			t.Errorf("%d: %v, error %d", i, is, e)
		}
	}
	for i, w := range bad() {
		for _, pair := range [][2]api.Term{{w, a}, {a, w}, {w, w}} {
			if is, e := term.Variant(pair[0], pair[1]); is || e != api.ErrTerm {
				t.Errorf("bad %d: %v, error %d", i, is, e)
			}
		}
	}
}

// TestP1_5_Match: the shortest substitution, and nothing where there is none.
func TestP1_5_Match(t *testing.T) {
	for i, c := range []struct {
		p, t api.Term
		want []api.Term
		is   bool
	}{
		{fun("f", x, x), fun("f", a, a), []api.Term{a}, true}, {fun("f", x, x), fun("f", a, b), nil, false}, {y, fun("g", y), []api.Term{free, fun("g", y)}, true},
		{x, x, []api.Term{x}, true}, {fun("f", z, x), fun("f", y, z), []api.Term{z, free, y}, true}, {fun("f", x, y), fun("f", y, x), []api.Term{y, x}, true},
		{fun("f", x, y), fun("f", y, y), []api.Term{y, y}, true}, {fun("f", x, x), fun("f", x, y), nil, false},
		{a, a, nil, true}, {a, b, nil, false}, {a, x, nil, false}, {fun("f", a), fun("f", x), nil, false}, {fun("f", x), fun("f", a, b), nil, false}, {fun("f", x), fun("g", a), nil, false}, {vec(x), fun("f", a), nil, false},
		{vec(), vec(), nil, true}, {vec(x), vec(), nil, false}, {integer(1), integer(2), nil, false}, {str("a"), a, nil, false},
		{fun("f", x, vec(x)), fun("f", fun("g", y), vec(fun("g", y))), []api.Term{fun("g", y)}, true},
		{x, broad(4000), []api.Term{broad(4000)}, true},
	} {
		got, is, e := term.Match(c.p, c.t)
		if e != api.OK || is != c.is || !equalAll(got, c.want) {
			t.Errorf("%d: %v, %v, error %d", i, got, is, e)
		}
	}
	got, is, e := term.Match(variable(99999), a)
	if len(got) != 100000 || !is || e != api.OK || !equal(got[99999], a) {
		t.Errorf("the greatest variable: %d terms, %v, error %d", len(got), is, e)
	}
	for i, w := range bad() {
		for _, pair := range [][2]api.Term{{w, a}, {x, w}, {w, w}} {
			if got, is, e := term.Match(pair[0], pair[1]); len(got) != 0 || is || e != api.ErrTerm {
				t.Errorf("bad %d: %v, %v, error %d", i, got, is, e)
			}
		}
	}
}

// TestP1_11_Normal: normal terms stay, variants come to the same, and the variables lead back.
func TestP1_11_Normal(t *testing.T) {
	r := rand.New(rand.NewSource(11))
	for range 1000 {
		l := []api.Term{made(r, 4), made(r, 3)}
		got, vars, e := term.Normal(l)
		if e != api.OK {
			t.Fatalf("error %d", e)
		}
		again, same, e := term.Normal(got)
		wantTerms(t, "of normal terms", again, e, got...)
		var back []api.Term
		for i, v := range vars {
			back = append(back, variable(v))
			if same[i] != i {
				t.Fatalf("of normal terms: variables %v", same)
			}
		}
		wantTerms(t, "back", []api.Term{subst(t, got[0], back), subst(t, got[1], back)}, api.OK, l...)
		names := []api.Term{variable(40), variable(2), variable(0)}
		other, _, e := term.Normal([]api.Term{subst(t, l[0], names), subst(t, l[1], names)})
		wantTerms(t, "of variants", other, e, got...)
		order, _ := term.Vars(got)
		for i, v := range order {
			if i != v {
				t.Fatalf("not normal: %v", order)
			}
		}
	}
}

// TestP1_12_Matching: each instance is matched, by what was put; both ways just variants are.
func TestP1_12_Matching(t *testing.T) {
	r := rand.New(rand.NewSource(12))
	for range 2000 {
		p, l := made(r, 4), madeSubst(r)
		whole := subst(t, p, l)
		got, is, e := term.Match(p, whole)
		if !is || e != api.OK {
			t.Fatalf("%v is no instance of %v: error %d", whole, p, e)
		}
		wantTerm(t, "by what Match returns", subst(t, p, got), api.OK, whole)
		vars, _ := term.Vars([]api.Term{p})
		last := len(got) - 1
		for v, put := range got {
			if !slices.Contains(vars, v) {
				want(t, "Kind for a variable that p does not have", put.Kind, 0)
			} else {
				wantTerm(t, "for a variable", put, api.OK, subst(t, variable(v), l))
			}
		}
		if last >= 0 && !slices.Contains(vars, last) {
			t.Fatalf("%v: %d terms are not the shortest", p, len(got))
		}
	}
	for _, s := range small() {
		for _, u := range small() {
			_, there, _ := term.Match(s, u)
			_, back, _ := term.Match(u, s)
			if is, _ := term.Variant(s, u); is != (there && back) {
				t.Fatalf("%v and %v: %v, %v, variants %v", s, u, there, back, is)
			}
		}
	}
}
