package term_test

import (
	"math"
	"math/rand"
	"slices"
	"testing"

	"riparian/api"
	"riparian/term"
)

// noSubst are lists that are no substitutions.
func noSubst() [][]api.Term {
	out := [][]api.Term{make([]api.Term, api.MaxVar+1), {{N: 1}}, {{S: "a"}}, {{L: []api.Term{a}}}}
	for _, w := range bad()[1:] {
		out = append(out, []api.Term{a, w}, []api.Term{w})
	}
	return out
}

// TestP1_4_Subst: all variables at once, those that are free or beyond the list stay.
func TestP1_4_Subst(t *testing.T) {
	for i, c := range []struct {
		t    api.Term
		l    []api.Term
		want api.Term
	}{
		{fun("f", x, y), []api.Term{fun("g", y), a}, fun("f", fun("g", y), a)},
		{fun("f", x, y), []api.Term{y, x}, fun("f", y, x)},
		{vec(x, y, z), []api.Term{free, b}, vec(x, b, z)},
		{x, []api.Term{fun("f", x)}, fun("f", x)},
		{fun("f", integer(0), a), []api.Term{b}, fun("f", integer(0), a)},
		{fun("f", x), nil, fun("f", x)},
		{vec(x, x), []api.Term{broad(1999)}, vec(broad(1999), broad(1999))},
		{x, append(make([]api.Term, api.MaxVar-1), a), x},
		{variable(99999), append(make([]api.Term, api.MaxVar-1), a), a},
		{fun("f", x), []api.Term{chain(599, a)}, chain(600, a)},
		{fun("f", z), []api.Term{broad(4000), broad(4000), a}, fun("f", a)},
	} {
		got, e := term.Subst(c.t, c.l)
		if e != api.OK || !equal(got, c.want) {
			t.Errorf("%d: %v, error %d", i, got, e)
		}
	}
	got, e := term.Subst(vec(x, x), []api.Term{broad(2000)})
	wantNoTerm(t, "4001 nodes", got, e, api.ErrLimit)
	got, e = term.Subst(fun("f", x), []api.Term{chain(600, a)})
	wantNoTerm(t, "601 deep", got, e, api.ErrLimit)
	for _, l := range noSubst() {
		got, e = term.Subst(vec(x, x, fun("f", x)), l)
		wantNoTerm(t, "no substitution", got, e, api.ErrArg)
	}
	for _, w := range bad() {
		got, e = term.Subst(w, []api.Term{{Kind: 8}})
		wantNoTerm(t, "bad", got, e, api.ErrTerm)
	}
}

// TestP1_4_SubstHuge: what would be far too large is not built.
func TestP1_4_SubstHuge(t *testing.T) {
	many := broad(4000)
	for i := range many.L {
		for j := range many.L[i].L {
			many.L[i].L[j] = x
		}
	}
	got, e := term.Subst(many, []api.Term{broad(4000)})
	wantNoTerm(t, "millions of nodes", got, e, api.ErrLimit)
}

// TestP1_4_Compose: as long as the longer one, free where a variable stays.
func TestP1_4_Compose(t *testing.T) {
	for i, c := range []struct{ a, b, want []api.Term }{
		{[]api.Term{fun("f", y)}, []api.Term{free, a}, []api.Term{fun("f", a), a}},
		{[]api.Term{y}, []api.Term{free, x}, []api.Term{free, x}},
		{nil, nil, nil},
		{[]api.Term{free, free, free}, nil, []api.Term{free, free, free}},
		{nil, []api.Term{free, b, free}, []api.Term{free, b, free}},
		{[]api.Term{x, y}, nil, []api.Term{free, free}},
		{nil, []api.Term{x, x}, []api.Term{free, x}},
		{[]api.Term{free, c}, []api.Term{a, b}, []api.Term{a, c}},
		{[]api.Term{y, x}, []api.Term{y, x}, []api.Term{free, free}},
		{[]api.Term{fun("f", x, z)}, []api.Term{vec(x), free, y}, []api.Term{fun("f", vec(x), y), free, y}},
	} {
		got, e := term.Compose(c.a, c.b)
		if e != api.OK || !equalAll(got, c.want) {
			t.Errorf("%d: %v, error %d", i, got, e)
		}
	}
	for i, l := range noSubst() {
		for _, pair := range [][2][]api.Term{{l, nil}, {nil, l}, {[]api.Term{vec(x, x, x)}, append([]api.Term{broad(4000)}, l...)}} {
			if got, e := term.Compose(pair[0], pair[1]); len(got) != 0 || e != api.ErrArg {
				t.Errorf("no substitution %d: %d terms, error %d", i, len(got), e)
			}
		}
	}
	for name, l := range map[string][2][]api.Term{
		"4001 nodes": {{a, vec(x, x)}, {broad(2000)}}, "601 deep": {{a, fun("f", y)}, {free, chain(600, a)}},
	} {
		if got, e := term.Compose(l[0], l[1]); len(got) != 0 || e != api.ErrLimit {
			t.Errorf("%s: %d terms, error %d", name, len(got), e)
		}
	}
	got, e := term.Compose([]api.Term{vec(x, x), fun("f", y)}, []api.Term{broad(1999), chain(599, a)})
	wantTerms(t, "just not too large", got, e, vec(broad(1999), broad(1999)), chain(600, a))
}

// TestP1_4_ComposeHuge: what is of no use because of a later error is not built.
func TestP1_4_ComposeHuge(t *testing.T) {
	l := repeat(api.MaxVar-1, fun("f", x))
	got, e := term.Compose(append(l, fun("f", x, x)), []api.Term{broad(3999)})
	want(t, "error", e, api.ErrLimit)
	want(t, "terms", len(got), 0)
}

// TestP1_4_Shift: all variables, none out of bounds.
func TestP1_4_Shift(t *testing.T) {
	s := fun("f", y, integer(1), vec(variable(5), y))
	for _, n := range []int{-1, 0, 3, 99994} {
		got, e := term.Shift(s, n)
		wantTerm(t, "Shift", got, e, fun("f", variable(1+n), integer(1), vec(variable(5+n), variable(1+n))))
	}
	for _, n := range []int{-2, -5, 99995, 100000, math.MaxInt, math.MinInt} {
		got, e := term.Shift(s, n)
		wantNoTerm(t, "Shift", got, e, api.ErrArg)
		got, e = term.Shift(vec(a), n)
		wantTerm(t, "Shift without variables", got, e, vec(a))
	}
	for _, w := range bad() {
		got, e := term.Shift(w, math.MaxInt)
		wantNoTerm(t, "bad", got, e, api.ErrTerm)
	}
}

// TestP1_10_Composition: two substitutions one after the other are one, in whatever order three are taken.
func TestP1_10_Composition(t *testing.T) {
	r := rand.New(rand.NewSource(10))
	for range 2000 {
		l, m, n := madeSubst(r), madeSubst(r), madeSubst(r)
		lm, e := term.Compose(l, m)
		if e != api.OK {
			t.Fatalf("error %d", e)
		}
		s := made(r, 4)
		wantTerm(t, "by both", subst(t, s, lm), api.OK, subst(t, subst(t, s, l), m))
		wantTerm(t, "by hand", subst(t, s, lm), api.OK, put(put(s, l), m))
		mn, _ := term.Compose(m, n)
		first, e := term.Compose(lm, n)
		if e != api.OK {
			t.Fatalf("error %d", e)
		}
		second, e := term.Compose(l, mn)
		wantTerms(t, "of three", second, e, first...)
		wantTerm(t, "nothing", subst(t, s, nil), api.OK, s)
		wantTerm(t, "all free", subst(t, s, make([]api.Term, 3)), api.OK, s)
	}
}

// TestP1_14_Variables: what is ground has no variables and is not changed; variables of an instance come from what was put, or stayed.
func TestP1_14_Variables(t *testing.T) {
	r := rand.New(rand.NewSource(14))
	for range 2000 {
		s, l := made(r, 4), madeSubst(r)
		vars, e := term.Vars([]api.Term{s})
		ground, e2 := term.Ground(s)
		if e != api.OK || e2 != api.OK || ground != (len(vars) == 0) {
			t.Fatalf("%v: variables %v, ground %v", s, vars, ground)
		}
		got := subst(t, s, l)
		if ground && !equal(got, s) {
			t.Fatalf("%v has become %v", s, got)
		}
		_, count, _ := weigh(s)
		var from []int
		for _, v := range vars {
			n, _ := term.Times(s, v)
			count -= n
			kept := []api.Term{variable(v)}
			if v < len(l) && l[v].Kind != 0 {
				kept[0] = l[v]
			}
			more, _ := term.Vars(kept)
			from = append(from, more...)
		}
		if count != 0 {
			t.Fatalf("%v: %d variables are not counted", s, count)
		}
		is, _ := term.Vars([]api.Term{got})
		slices.Sort(is)
		slices.Sort(from)
		if !slices.Equal(is, slices.Compact(from)) {
			t.Fatalf("%v by %v: variables %v, want %v", s, l, is, from)
		}
	}
}
