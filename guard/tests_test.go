package guard_test

import (
	"slices"
	"testing"

	"riparian/api"
	"riparian/guard"
)

// TestP5_2_Test: each test, for each kind of value.
func TestP5_2_Test(t *testing.T) {
	for _, r := range []row{
		{"wait(Y)", yes()}, {"wait(X)", waits(0)}, {"integer(Y)", yes()}, {"atom(Y)", no()}, {"list([])", yes()}, {"list(X)", waits(0)},
		{"f(X, Y) == f(Z, 5)", waits(0, 2)}, {"f(X) == g(X)", no()}, {"X \\== X", no()}, {"Y < 6", yes()}, {"X < Y", waits(0)}, {"Y =:= 1 / 0", no()},
		{"true", yes()}, {"wait(f(X))", yes()}, {"wait({})", yes()}, {"wait(a)", yes()},
		{"integer(X)", waits(0)}, {"atom(Z)", waits(2)}, {"string(X)", waits(0)}, {"vector(X)", waits(0)},
		{"integer(a)", no()}, {`integer("")`, no()}, {"integer(f(1))", no()}, {"integer({1})", no()}, {"integer(-1)", yes()}, {"integer(1 + 1)", no()},
		{"atom(a)", yes()}, {"atom([])", yes()}, {"atom(1)", no()}, {`atom("a")`, no()}, {"atom(f(a))", no()}, {"atom({})", no()},
		{`string("")`, yes()}, {`string("a")`, yes()}, {"string(a)", no()}, {"string(1)", no()}, {`string(f("a"))`, no()}, {`string({"a"})`, no()},
		{"vector({})", yes()}, {"vector({X})", yes()}, {"vector(f(X))", no()}, {"vector([])", no()}, {"vector(1)", no()}, {`vector("")`, no()},
		{"list([X|Z])", yes()}, {"list([1])", yes()}, {"list(a)", no()}, {"list({})", no()}, {"list(f(1, []))", no()}, {`list("[]")`, no()}, {"list(1)", no()}, {"list('.')", no()}, {"list('.'(1))", no()}, {"list('.'(1, 2, 3))", no()},
		{"X == X", yes()}, {"X == Z", waits(0, 2)}, {"Z == X", waits(0, 2)}, {"f(Z, X) == f(X, Z)", waits(0, 2)}, {"Y == 5", yes()}, {"5 == Y", yes()}, {"Y == 6", no()}, {"X == f(X)", no()}, {"X == f(Y)", waits(0)}, {"f(X, a) == f(b, b)", no()}, {"f(X, Z) == f(Z, f(X))", no()}, {"{} == {}", yes()}, {"1 == '1'", no()}, {`a == "a"`, no()}, {"2 + 3 == 5", no()},
		{"X \\== Z", waits(0, 2)}, {"Y \\== 5", no()}, {"Y \\== 6", yes()}, {"X \\== f(X)", yes()}, {"f(X) \\== f(Y)", waits(0)}, {"f(X, a) \\== f(b, b)", yes()},
		{"1 =:= 1", yes()}, {"1 =:= 2", no()}, {"2 =:= 1", no()}, {"1 =\\= 1", no()}, {"1 =\\= 2", yes()}, {"2 =\\= 1", yes()}, {"1 < 1", no()}, {"1 < 2", yes()}, {"2 < 1", no()}, {"1 =< 1", yes()}, {"1 =< 2", yes()}, {"2 =< 1", no()},
		{"1 > 1", no()}, {"1 > 2", no()}, {"2 > 1", yes()}, {"1 >= 1", yes()}, {"1 >= 2", no()}, {"2 >= 1", yes()},
		{"Y + 1 =:= 2 * 3", yes()}, {"X =:= X", waits(0)}, {"X =\\= X", waits(0)}, {"Z + 1 < X", waits(0, 2)}, {"X > 1 / 0", no()}, {"1 / 0 > X", no()}, {"1 / 0 =\\= 1 / 0", no()}, {"1 / 0 < 1", no()}, {"1 >= 1 mod 0", no()}, {"2147483647 + 1 > 0", no()}, {"-2147483647 < 2147483647", yes()},
	} {
		wantReply(t, "Test of "+r.text, test(five(), of(r.text)), r.want)
		wantReply(t, "All of "+r.text, all(five(), of(r.text)), r.want)
	}
	s := store(6, "Y = X, Z = [U], V = Z, W = a")
	for _, r := range []row{
		{"wait(Y)", waits(0)}, {"wait(V)", yes()}, {"list(V)", yes()}, {"list(Y)", waits(0)}, {"atom(W)", yes()}, {"atom(Y)", waits(0)}, {"X == Y", yes()}, {"X \\== Y", no()}, {"V == Z", yes()}, {"V == [Y]", waits(0, 3)}, {"[W] == V", waits(3)}, {"f(Y, V) == f(U, Z)", waits(0, 3)}, {"W < Y", no()}, {"Y < U", waits(0, 3)},
	} {
		wantReply(t, "Test of "+r.text, test(s, of(r.text)), r.want)
	}
}

// TestP5_2_All: several tests together.
func TestP5_2_All(t *testing.T) {
	for _, r := range []row{
		{"", yes()}, {"true, wait(Y)", yes()}, {"wait(Z), wait(X)", waits(0, 2)}, {"wait(Z), true, Z < X, wait(Z)", waits(0, 2)}, {"wait(X), integer(a), wait(Z)", no()}, {"integer(a), wait(X)", no()}, {"wait(X), 1 < 1", no()}, {"X < 1, X > 1", waits(0)},
	} {
		wantReply(t, "All of "+r.text, all(five(), terms(r.text)...), r.want)
	}
	many := make([]api.Term, 3000)
	for i := range many {
		many[i] = fun("wait", variable(len(many)-1-i))
	}
	var vars []int
	for i := range many {
		vars = append(vars, i)
	}
	wantReply(t, "many", all(unbound(len(many)), many...), waits(vars...))
}

// TestP5_2_Limit: a number that needs too much, and what unify.Ask does not compare, are told also where another test answers No.
func TestP5_2_Limit(t *testing.T) {
	s := store(2, "")
	s.B[1] = sum(api.MaxNodes)
	wantReply(t, "4000 on both sides", test(s, of("Y =:= Y")), yes())
	for _, text := range []string{"-(Y) < 1", "1 < -(Y)", "1 / 0 > Y + 0", "X < Y + X"} {
		wantReply(t, text, test(s, of(text)), fails(api.ErrLimit))
		for _, l := range [][]api.Term{terms("1 < 1, " + text), terms(text + ", 1 < 1")} {
			wantReply(t, text, all(s, l...), fails(api.ErrLimit))
		}
	}
	s, one, other := towers(13, a, a)
	wantReply(t, "16383 pairs", test(s, fun("==", one, other)), yes())
	s, one, other = towers(13, a, b)
	wantReply(t, "No at once", test(s, fun("==", one, other)), no())
	s, one, other = towers(13, none, none)
	wantReply(t, "16383 pairs that wait", test(s, fun("\\==", one, other)), waits(0, 14))
	for _, second := range []api.Term{a, none} {
		s, one, other = towers(14, second, second)
		for _, name := range []string{"==", "\\=="} {
			wantReply(t, "32767 pairs", test(s, fun(name, one, other)), fails(api.ErrLimit))
			wantReply(t, "32767 pairs", all(s, fun("==", a, b), fun(name, one, other)), fails(api.ErrLimit))
		}
	}
}

// TestP5_2_Pairs: just as many pairs are compared as unify.Ask compares.
func TestP5_2_Pairs(t *testing.T) {
	// The variables 4 and 5 are compared in 1 + 62 * 3 pairs.
	s := unbound(6)
	s.B[2], s.B[3], s.B[4] = vec(x, x), vec(y, y), row62(variable(2))
	s.B[5] = row62(variable(3))
	wantReply(t, "187 pairs", test(s, fun("==", variable(4), variable(5))), waits(0, 1))
	for _, n := range []int{api.MaxWork - 1, api.MaxWork} {
		one := pairs(n)
		wantReply(t, "as many pairs as can be", test(s, fun("==", one, swapped(one))), waits(0, 1))
	}
	one := pairs(api.MaxWork + 1)
	wantReply(t, "a pair too much", test(s, fun("==", one, swapped(one))), fails(api.ErrLimit))
}

// row62 is a vector of 62 equal terms.
func row62(t api.Term) api.Term {
	return vec(slices.Repeat([]api.Term{t}, 62)...)
}

// pairs is a vector that is compared in n pairs with itself, where the variable 4 takes 187 of them.
func pairs(n int) api.Term {
	fours := slices.Repeat([]api.Term{variable(4)}, 53)
	out := vec(vec(fours...), vec(fours...), vec(), vec(), vec())
	for i := range n - 6 - 106*187 {
		last := &out.L[2+i%3]
		last.L = append(last.L, a)
	}
	return out
}

// swapped is a term with the variable 5 in the place of 4.
func swapped(t api.Term) api.Term {
	if equal(t, variable(4)) {
		return variable(5)
	}
	l := t.L
	t.L = nil
	for _, x := range l {
		t.L = append(t.L, swapped(x))
	}
	return t
}

// noTests are terms that are no tests.
func noTests() []api.Term {
	return append(terms("a, X, 1, [], \"true\", {}, otherwise, wait, true(X), wait(X, Y), integer, list(X, Y), X = Y, X := Y, f(X), (X == Y) =:= Z, (true, true), 1 < a, X < f(Y), a =:= X, 1 >= [], {} =< 1, \"1\" > 1, 1 =\\= Y + a, -(a) < 1, X < (1 < 2), <(1), ==(1), ==(1, 2, 3)"), vec(atom("true")))
}

// TestP5_2_Errors: what is no store, no term over it, no test; and which error comes first.
func TestP5_2_Errors(t *testing.T) {
	for name, s := range badStores() {
		wantReply(t, name, test(s, atom("true")), fails(api.ErrStore))
		wantReply(t, name+", no term", test(s, none), fails(api.ErrStore))
		wantReply(t, name+", no test", all(s, a), fails(api.ErrStore))
		wantReply(t, name+", none", all(s), fails(api.ErrStore))
	}
	s := unbound(3)
	for _, bad := range badTerms() {
		wantReply(t, "no term", test(s, bad), fails(api.ErrTerm))
		wantReply(t, "no term within", test(s, fun("wait", bad)), fails(api.ErrTerm))
		wantReply(t, "no term behind no test", all(s, a, bad), fails(api.ErrTerm))
		wantReply(t, "no term ahead", all(s, bad, a), fails(api.ErrTerm))
	}
	wantReply(t, "a variable behind", test(unbound(2), of("wait(Z)")), fails(api.ErrTerm))
	wantReply(t, "a variable behind no test", all(unbound(2), a, of("wait(Z)")), fails(api.ErrTerm))
	for _, bad := range noTests() {
		wantReply(t, "no test", test(s, bad), fails(api.ErrTest))
		wantReply(t, "no test first", all(s, bad, of("1 < 1")), fails(api.ErrTest))
		wantReply(t, "no test last", all(s, of("1 < 1"), bad), fails(api.ErrTest))
	}
	s.B[1] = sum(api.MaxNodes)
	wantReply(t, "no test behind a limit", all(s, of("-(Y) < 1"), a), fails(api.ErrTest))
	wantReply(t, "each by itself", all(s, fun("wait", broad(api.MaxNodes-1)), fun("wait", broad(api.MaxNodes-1))), yes())
}

// TestP5_2_Opposite: the opposites of tests.
func TestP5_2_Opposite(t *testing.T) {
	for _, r := range [][2]string{
		{"X == f(Y)", "X \\== f(Y)"}, {"X \\== Y", "X == Y"}, {"X =:= Y + 1", "X =\\= Y + 1"}, {"X =\\= Y", "X =:= Y"}, {"X < Y", "X >= Y"}, {"X =< 1", "X > 1"}, {"1 > Y", "1 =< Y"}, {"X >= Y", "X < Y"},
	} {
		got, is, e := guard.Opposite(of(r[0]))
		if !is || e != api.OK || !equal(got, of(r[1])) {
			t.Errorf("Opposite of %s: got %v, %v, error %d", r[0], got, is, e)
		}
	}
	wantNone := func(x api.Term, wanted api.Errno) {
		t.Helper()
		got, is, e := guard.Opposite(x)
		if is || e != wanted || !equal(got, none) {
			t.Errorf("Opposite of %v: got %v, %v, error %d", x, got, is, e)
		}
	}
	for _, x := range terms("true, wait(X), integer(X), atom(X), string(X), vector(X), list(X), wait(X == Y)") {
		wantNone(x, api.OK)
	}
	for _, x := range append(noTests(), badTerms()...) {
		wantNone(x, api.ErrTest)
	}
	wantNone(fun("==", x, none), api.ErrTest)
}
