package term_test

import (
	"slices"
	"testing"

	"riparian/api"
	"riparian/term"
)

func compare(t *testing.T, s, u api.Term) int {
	t.Helper()
	n, e := term.Compare(s, u)
	if e != api.OK {
		t.Fatalf("Compare: error %d", e)
	}
	return n
}

// TestP1_2_Compare: a list in the standard order, each against each.
func TestP1_2_Compare(t *testing.T) {
	l := []api.Term{
		x, y, variable(10), integer(-3), integer(0), integer(2), integer(10),
		atom("B"), a, atom("aa"), atom("ab"), b,
		str(""), str("\x01"), str("a"), str("ab"), str("b"), str("\xff"),
		fun("a", x), fun("g", x), fun("g", integer(1)), fun("z", a),
		fun("f", integer(1), integer(2)), fun("f", integer(2), integer(1)), fun("g", integer(0), integer(0)), fun("a", x, x, x),
		vec(), vec(integer(3)), vec(vec()), vec(integer(1), integer(2)), vec(integer(1), integer(3)), vec(integer(2), integer(0)),
	}
	for i, s := range l {
		for j, u := range l {
			wanted := 0
			if i < j {
				wanted = -1
			} else if i > j {
				wanted = 1
			}
			if n := compare(t, s, u); n != wanted {
				t.Errorf("%d and %d: %d, want %d", i, j, n, wanted)
			}
		}
	}
	for i, w := range bad() {
		for _, pair := range [][2]api.Term{{w, a}, {a, w}, {w, w}} {
			if n, e := term.Compare(pair[0], pair[1]); n != 0 || e != api.ErrTerm {
				t.Errorf("bad %d: %d, error %d", i, n, e)
			}
		}
	}
}

// TestP1_2_Vars: each variable once, by its first occurrence in all the terms.
func TestP1_2_Vars(t *testing.T) {
	for i, c := range []struct {
		l    []api.Term
		want []int
	}{
		{[]api.Term{fun("f", y, x, y)}, []int{1, 0}}, {nil, nil}, {[]api.Term{a, integer(7)}, nil},
		{[]api.Term{fun("f", vec(variable(99999)), z), x, fun("g", z, y)}, []int{99999, 2, 0, 1}},
	} {
		if got, e := term.Vars(c.l); !slices.Equal(got, c.want) || e != api.OK {
			t.Errorf("%d: %v, error %d", i, got, e)
		}
	}
	for i, w := range append(bad(), broad(4000)) {
		if got, e := term.Vars([]api.Term{x, w}); len(got) != 0 || e != api.ErrTerm {
			t.Errorf("bad %d: %v, error %d", i, got, e)
		}
	}
}

// TestP1_2_Times: variables are counted, not integers with the same number.
func TestP1_2_Times(t *testing.T) {
	s := fun("f", y, integer(1), vec(y, x), list(y, integer(0)))
	for v, wanted := range map[int]int{0: 1, 1: 3, 2: 0, -1: 0, 100000: 0, 1 << 62: 0, -1 << 63: 0} {
		if n, e := term.Times(s, v); n != wanted || e != api.OK {
			t.Errorf("variable %d: %d, error %d", v, n, e)
		}
	}
	for i, w := range bad() {
		if n, e := term.Times(w, -1); n != 0 || e != api.ErrTerm {
			t.Errorf("bad %d: %d, error %d", i, n, e)
		}
	}
}

// TestP1_2_Ground: whether there are variables, wherever they stand.
func TestP1_2_Ground(t *testing.T) {
	for i, c := range []struct {
		t    api.Term
		want bool
	}{{a, true}, {integer(0), true}, {vec(), true}, {fun("f", str(""), vec(a)), true}, {x, false}, {fun("f", a, vec(b, z)), false}, {list(x, a), false}} {
		if is, e := term.Ground(c.t); is != c.want || e != api.OK {
			t.Errorf("%d: %v, error %d", i, is, e)
		}
	}
	for i, w := range bad() {
		if is, e := term.Ground(w); is || e != api.ErrTerm {
			t.Errorf("bad %d: %v, error %d", i, is, e)
		}
	}
}

// TestP1_2_Symbols: of atoms and structures, each once, by name and then by arity.
func TestP1_2_Symbols(t *testing.T) {
	for i, c := range []struct {
		t    api.Term
		want []api.Symbol
	}{
		{x, nil}, {vec(integer(1), str("s")), nil}, {a, []api.Symbol{{Name: "a"}}},
		{fun("f", list(empty, fun("f", fun("f", x)), atom("f")), fun("B", atom("aa"), a), a), []api.Symbol{{Name: ".", Arity: 2}, {Name: "B", Arity: 2}, {Name: "[]"}, {Name: "a"}, {Name: "aa"}, {Name: "f"}, {Name: "f", Arity: 1}, {Name: "f", Arity: 3}}},
	} {
		if got, e := term.Symbols(c.t); !slices.Equal(got, c.want) || e != api.OK {
			t.Errorf("%d: %v, error %d", i, got, e)
		}
	}
	for i, w := range bad() {
		if got, e := term.Symbols(w); len(got) != 0 || e != api.ErrTerm {
			t.Errorf("bad %d: %v, error %d", i, got, e)
		}
	}
}

// TestP1_8_Order: of each two terms one is ahead, or they are the same; and of each three the order is that of a line.
func TestP1_8_Order(t *testing.T) {
	l := small()
	for _, s := range l {
		for _, u := range l {
			n := compare(t, s, u)
			if n < -1 || n > 1 || n != -compare(t, u, s) || (n == 0) != term.Same(s, u) {
				t.Fatalf("%v and %v: %d", s, u, n)
			}
		}
	}
	slices.SortFunc(l, func(s, u api.Term) int { return compare(t, s, u) })
	for i, s := range l {
		for j, u := range l[i:] {
			n := compare(t, s, u)
			if n > 0 || n == 0 && !equal(s, u) {
				t.Fatalf("not a line: %v, and %d behind it %v: %d", s, j, u, n)
			}
		}
	}
}
