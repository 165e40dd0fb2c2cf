package guard_test

import (
	"slices"
	"testing"

	"riparian/api"
)

// TestP5_3_Match: patterns, arguments over X, Y, Z of which Y is bound to 5, and what is wanted.
func TestP5_3_Match(t *testing.T) {
	for _, r := range []struct {
		patterns, args string
		want           reply
	}{
		{"f(A, A)", "f(X, X)", binds(x)}, {"f(A, A)", "f(X, Z)", waits(0, 2)}, {"f(A, A)", "f(a, b)", no()}, {"f(A, A)", "X", waits(0)},
		{"[A|B], A", "X, 5", waits(0)}, {"A, A, A", "1, X, 2", no()}, {"A, A, A", "X, 1, 2", waits(0)}, {"f(A), A, A", "X, 1, 2", waits(0)},
		{"", "", yes()}, {"A", "Y", binds(integer(5))}, {"A", "f(Y)", binds(of("f(Y)"))}, {"A, B", "X, Z", binds(x, z)}, {"a", "a", yes()}, {"a", "X", waits(0)}, {"5", "Y", yes()}, {"6", "Y", no()}, {"A, 6", "X, Y", no()},
		{"a", "b", no()}, {"a", `"a"`, no()}, {"1", "2", no()}, {"f(A)", "g(a)", no()}, {"f(A)", "f(a, b)", no()}, {"f(A)", "f", no()}, {"{A}", "{}", no()}, {"{A}", "{X}", binds(x)}, {"{}", "{}", yes()}, {`"ab"`, `"ab"`, yes()}, {`"ab"`, `"a"`, no()}, {"'1'", "1", no()}, {"{A}", "f(a)", no()},
		{"f(a, B)", "f(X, Z)", waits(0)}, {"f(a, b)", "f(Z, X)", waits(0, 2)}, {"f(a, b, c)", "f(Z, X, d)", no()}, {"f(f(a), B)", "f(Z, b)", waits(2)}, {"f(f(A), B)", "f(f(Z), b)", binds(z, b)},
		{"A, A", "X, Z", waits(0, 2)}, {"A, A", "Y, 5", binds(integer(5))}, {"A, A", "f(X), f(Z)", waits(0, 2)}, {"A, A", "X, f(X)", no()}, {"A, A", "f(Y), f(5)", binds(of("f(Y)"))}, {"A, A", "f(5), f(Y)", binds(of("f(5)"))}, {"A, A, B, B", "X, X, Z, Z", binds(x, z)}, {"A, A, B, B", "X, X, Z, a", waits(2)}, {"A, B, A, B", "X, a, X, b", no()},
		{"A, f(A)", "1, X", waits(0)}, {"A, f(A), A", "1, X, 2", no()}, {"f(A), A", "X, 1", waits(0)}, {"f(A), g(A), A, A", "X, Z, 1, 2", waits(0, 2)}, {"f(A), A, B, B", "X, 1, a, b", no()}, {"f(A, A)", "f(X, Y)", waits(0)},
		{"f(A), f(B)", "f(b), a", no()}, {"f(A), A, A", "g(1), 1, 2", no()}, {"f(A), b", "X, b", waits(0)}, {"f(f(f(A)))", "f(X)", waits(0)}, {"[A, B|C]", "[1, 2, 3]", binds(integer(1), integer(2), of("[3]"))}, {"[A, B|C]", "[1|Z]", waits(2)}, {"[A|B]", "[]", no()},
	} {
		wantReply(t, "Match of "+r.patterns+" against "+r.args, match(five(), patterns(r.patterns), terms(r.args)), r.want)
	}
}

// TestP5_3_Bound: what variables of a store are bound to is looked at, and patterns have variables of their own.
func TestP5_3_Bound(t *testing.T) {
	s := store(6, "Y = X, Z = f(Y, U), V = Z, W = V")
	for _, r := range []struct {
		patterns, args string
		want           reply
	}{
		{"A", "Y", binds(x)}, {"A, A", "X, Y", binds(x)}, {"A", "W", binds(of("f(Y, U)"))}, {"f(A, B)", "W", binds(x, variable(3))}, {"f(A, A)", "V", waits(0, 3)}, {"f(a, b)", "V", waits(0, 3)}, {"A, f(B, C), A", "V, Z, W", binds(of("f(Y, U)"), x, variable(3))}, {"a", "Y", waits(0)}, {"f(f(A), B), A", "W, 1", waits(0)}, {"A, A", "W, f(X, 1)", waits(0, 3)}, {"A, A", "W, U", no()}, {"A, A", "W, Y", no()}, {"A, A", "f(X), Y", no()},
	} {
		wantReply(t, "Match of "+r.patterns+" against "+r.args, match(s, patterns(r.patterns), terms(r.args)), r.want)
	}
	wantReply(t, "numbers with gaps", match(five(), []api.Term{variable(3), variable(1)}, terms("X, Y")), binds(none, integer(5), none, x))
	wantReply(t, "the greatest number", match(five(), []api.Term{variable(63)}, terms("X")), binds(append(make([]api.Term, 63), x)...))
	wantReply(t, "no store at all", match(api.Store{}, patterns("A, b"), terms("f(a), b")), binds(of("f(a)")))
}

// TestP5_3_Limit: everything is looked at, also where something is No; but what has no place is not.
func TestP5_3_Limit(t *testing.T) {
	s, one, other := towers(14, a, a)
	for _, r := range []struct {
		patterns string
		args     []api.Term
		want     reply
	}{
		{"A, A", []api.Term{one, one}, reply{is: api.Yes, binds: []api.Term{s.B[one.N]}}}, {"A, A", []api.Term{one, other}, fails(api.ErrLimit)}, {"a, A, A", []api.Term{b, one, other}, fails(api.ErrLimit)}, {"A, A, a", []api.Term{one, other, b}, fails(api.ErrLimit)}, {"A, A, A", []api.Term{one, b, other}, fails(api.ErrLimit)},
		{"f(A), A, A", []api.Term{a, one, other}, no()}, {"f(A, b), A, A", []api.Term{fun("f", one, one), one, one}, no()}, {"A, f(A)", []api.Term{one, b}, no()},
	} {
		wantReply(t, "Match of "+r.patterns, match(s, patterns(r.patterns), r.args), r.want)
	}
	s, one, other = towers(14, none, none)
	for _, r := range []struct {
		patterns string
		args     []api.Term
		want     reply
	}{
		{"A, A", []api.Term{one, other}, fails(api.ErrLimit)}, {"a, A, A", []api.Term{x, one, other}, fails(api.ErrLimit)}, {"f(A), A, A", []api.Term{x, one, other}, waits(0)}, {"A, f(A), b", []api.Term{one, x, x}, waits(0)},
	} {
		wantReply(t, "Match of "+r.patterns, match(s, patterns(r.patterns), r.args), r.want)
	}
	s, one, other = towers(13, none, none)
	wantReply(t, "each by itself", match(s, patterns("A, A, A, B, B"), []api.Term{one, other, other, one, other}), waits(0, 14))
}

// TestP5_3_MatchErrors: what are no patterns, and which error comes first.
func TestP5_3_MatchErrors(t *testing.T) {
	for name, s := range badStores() {
		wantReply(t, name, match(s, nil, nil), fails(api.ErrStore))
		wantReply(t, name+", no term", match(s, nil, []api.Term{none}), fails(api.ErrStore))
	}
	s := unbound(3)
	for _, bad := range badTerms() {
		wantReply(t, "an argument that is no term", match(s, patterns("A, B"), []api.Term{x, bad}), fails(api.ErrTerm))
		wantReply(t, "ahead of ErrArg", match(s, []api.Term{none}, []api.Term{x, bad}), fails(api.ErrTerm))
		wantReply(t, "a pattern that is no term", match(s, []api.Term{x, bad}, []api.Term{x, x}), fails(api.ErrArg))
		wantReply(t, "the first pattern", match(s, []api.Term{bad}, []api.Term{x}), fails(api.ErrArg))
	}
	wantReply(t, "a variable behind", match(s, patterns("A"), []api.Term{variable(3)}), fails(api.ErrTerm))
	wantReply(t, "a variable behind within", match(s, patterns("A, B"), []api.Term{x, fun("f", vec(variable(3)))}), fails(api.ErrTerm))
	wantReply(t, "too few patterns", match(s, patterns("A"), terms("X, Y")), fails(api.ErrArg))
	wantReply(t, "too many patterns", match(s, patterns("A, B"), terms("X")), fails(api.ErrArg))
	wantReply(t, "no arguments", match(s, patterns("A"), nil), fails(api.ErrArg))
	sixteen := slices.Repeat([]api.Term{x}, 16)
	wantReply(t, "16", match(s, sixteen, sixteen), binds(x))
	seventeen := append(sixteen, x)
	wantReply(t, "17", match(s, seventeen, seventeen), fails(api.ErrArg))
	wantReply(t, "17 with a bad one", match(s, seventeen, append(sixteen, none)), fails(api.ErrTerm))
	wantReply(t, "the variable 64", match(s, []api.Term{variable(64)}, []api.Term{x}), fails(api.ErrArg))
	wantReply(t, "the variable 64 within", match(s, []api.Term{x, fun("f", x, vec(variable(64)))}, []api.Term{x, a}), fails(api.ErrArg))
	half := broad(api.MaxNodes / 2)
	wantReply(t, "4000 nodes together", match(s, []api.Term{half, half}, []api.Term{half, half}), yes())
	wantReply(t, "4001 nodes together", match(s, []api.Term{half, half, x}, []api.Term{half, half, x}), fails(api.ErrArg))
	whole := broad(api.MaxNodes)
	wantReply(t, "arguments by themselves", match(s, patterns("A, B"), []api.Term{whole, whole}), binds(whole, whole))
}

// takes is a clause with its arguments, over X, Y, Z of which Y is bound to 5.
type takes struct {
	head, guard, args string
	want              reply
}

// TestP5_3_Take: heads and guards together.
func TestP5_3_Take(t *testing.T) {
	for _, r := range []takes{
		{"f(A), B", "A < 1, B < 1", "X, Z", waits(0, 2)}, {"f(A), B", "A < 1, B < 1", "X, 3", no()}, {"f(A), B", "A < B, B < 1", "X, 0", waits(0)},
		{"A, B", "A < B", "3, Y", binds(integer(3), integer(5))}, {"A, B", "A < B", "X, Y", waits(0)}, {"A, B", "A < B", "7, Y", no()},
		{"", "", "", yes()}, {"", "true", "", yes()}, {"", "1 < 1", "", no()}, {"A", "", "X", binds(x)}, {"f(A)", "", "X", waits(0)}, {"a", "", "b", no()},
		{"A", "wait(A)", "X", waits(0)}, {"A", "wait(A)", "Y", binds(integer(5))}, {"A", "integer(A), A > 4", "Y", binds(integer(5))}, {"A, B", "A == B", "X, X", binds(x, x)}, {"A, B", "A == B", "X, Z", waits(0, 2)}, {"A, B", "A \\== B", "X, f(X)", binds(x, of("f(X)"))}, {"A, B", "f(A, B) == f(B, A)", "X, a", waits(0)}, {"A, B", "f(A, 5) == f(B, B)", "X, X", waits(0)},
		{"A, A", "integer(A)", "5, Y", binds(integer(5))}, {"A, A", "integer(A)", "X, Y", waits(0)}, {"A, A", "atom(A)", "Y, X", no()}, {"A, A", "wait(A)", "X, Z", waits(0, 2)},
		{"f(A)", "A == A", "X", waits(0)}, {"f(A)", "wait(g(A))", "X", waits(0)}, {"f(A)", "f(A) == g(A)", "X", waits(0)}, {"f(A)", "true, 1 < 2", "X", waits(0)}, {"f(A)", "2 < 1", "X", no()}, {"f(A), g(B)", "A < B", "X, Z", waits(0, 2)}, {"f(A), g(B), C", "A + B < C", "X, Z, Z", waits(0, 2)}, {"f(A), A", "A < 1", "X, 3", waits(0)}, {"A, f(A)", "A < 1", "3, X", no()}, {"A, f(A)", "A < 5", "3, X", waits(0)}, {"A, f(A), B", "A < B", "3, X, Z", waits(0, 2)},
		{"f(A), B", "A < B", "g(1), X", no()}, {"f(A), B", "wait(B)", "g(1), X", no()}, {"f(A, B), g(C)", "A < C", "f(X, Z), g(Y)", waits(0)}, {"[A|B], C", "A =< C", "[1|X], 2", binds(integer(1), x, integer(2))}, {"A", "A =:= 1 / 0", "X", no()}, {"A", "A + 1 =:= 6", "2 + 3", binds(of("2 + 3"))},
	} {
		name := "Take of " + r.head + " :- " + r.guard + " for " + r.args
		wantReply(t, name, take(five(), terms(r.args), clause(r.head, r.guard, "")), r.want)
		c := orElse(clause(r.head, r.guard, "true"))
		wantReply(t, name+", marked", take(five(), terms(r.args), c), r.want)
	}
	wantReply(t, "variables of the body", take(five(), terms("X"), clause("f", "", "p(A, B), q(A, C)")), waits(0))
	wantReply(t, "variables of the body", take(five(), terms("Y, f(X)"), clause("A, f(B)", "integer(A)", "p(A, C), q(D, B)")), binds(integer(5), x, none, none))
	s := store(6, "Y = X, Z = f(Y, U), V = Z, W = 2 * 3")
	for _, r := range []takes{
		{"A, B", "A == B", "V, Z", binds(of("f(Y, U)"), of("f(Y, U)"))}, {"A, B", "A == f(B, B)", "V, X", waits(0, 3)}, {"A, B", "A =:= B", "W, 6", binds(of("2 * 3"), integer(6))}, {"A, B", "A + B > 1", "W, Y", waits(0)}, {"f(A, B)", "A == B", "V", waits(0, 3)}, {"f(f(A), B)", "A == B", "V", waits(0)}, {"f(f(A), g(B)), C", "A == B, wait(C)", "V, Z", waits(0, 3)},
	} {
		wantReply(t, "Take of "+r.head+" :- "+r.guard+" for "+r.args, take(s, terms(r.args), clause(r.head, r.guard, "")), r.want)
	}
}

// TestP5_3_TakeLimit: tests are answered also where something else is No, unless one of their variables has no place.
func TestP5_3_TakeLimit(t *testing.T) {
	s, one, other := towers(14, a, a)
	args := []api.Term{b, one, other}
	for _, r := range []struct {
		head, guard string
		want        reply
	}{
		{"A, B, C", "B == C", fails(api.ErrLimit)}, {"a, B, C", "B == C", fails(api.ErrLimit)}, {"f(A), B, C", "B \\== C", fails(api.ErrLimit)}, {"A, B, C", "1 < 1, B == C", fails(api.ErrLimit)}, {"A, B, B", "", fails(api.ErrLimit)}, {"f(A), B, C", "t(A, B) == t(A, C)", no()}, {"A, B, C", "t(A, B) == t(B, C)", no()},
	} {
		wantReply(t, "Take of "+r.head+" :- "+r.guard, take(s, args, clause(r.head, r.guard, "")), r.want)
	}
	s, one, other = towers(14, none, none)
	args = []api.Term{x, one, other}
	wantReply(t, "no place", take(s, args, clause("f(A), B, C", "t(A, B) == t(A, C)", "")), waits(0))
	wantReply(t, "no place, and one", take(s, args, clause("f(A), B, C", "t(A, B) == t(A, C), B == C", "")), fails(api.ErrLimit))
	s = unbound(2)
	s.B[1] = sum(api.MaxNodes)
	for _, r := range []struct {
		head, guard string
		want        reply
	}{
		{"a, B", "-(B) < 1", fails(api.ErrLimit)}, {"f(A), B", "-(B) < 1", fails(api.ErrLimit)}, {"f(A), B", "A - B < 1", waits(0)}, {"A, B", "A - B < 1", fails(api.ErrLimit)}, {"A, B", "B =< B", binds(x, s.B[1])},
	} {
		wantReply(t, "Take of "+r.head+" :- "+r.guard, take(s, []api.Term{x, y}, clause(r.head, r.guard, "")), r.want)
	}
	s, one, other = towers(13, none, none)
	// With the places of the variables there are more pairs, but not too many.
	wantReply(t, "16383 pairs, and few", take(s, []api.Term{one, other}, clause("A, B", "g(A, A) == g(B, A)", "")), waits(0, 14))
	wantReply(t, "twice 16383 pairs", take(s, []api.Term{one, other}, clause("A, B", "g(A, A) == g(B, B)", "")), fails(api.ErrLimit))
}

// badClauses are no clauses for one argument.
func badClauses() map[string]api.Clause {
	good := func(change func(c *api.Clause)) api.Clause {
		c := clause("f(A, B)", "A < B", "p(A), q(B, C)")
		change(&c)
		return c
	}
	return map[string]api.Clause{
		"no argument":         {},
		"two arguments":       clause("A, B", "", ""),
		"Vars":                good(func(c *api.Clause) { c.Vars = 2 }),
		"Vars more":           good(func(c *api.Clause) { c.Vars = 4 }),
		"Mark":                good(func(c *api.Clause) { c.Mark = api.MarkLate + 1 }),
		"Mark below":          good(func(c *api.Clause) { c.Mark = -1 }),
		"no test":             good(func(c *api.Clause) { c.Guard[0] = fun("p", x) }),
		"a test of a":         good(func(c *api.Clause) { c.Guard[0] = fun("<", x, a) }),
		"no goal":             good(func(c *api.Clause) { c.Body[0] = x }),
		"not in the head":     clause("f(A)", "wait(B)", ""),
		"not normal":          {Vars: 2, Head: []api.Term{fun("f", y, x)}},
		"no term":             {Head: []api.Term{none}},
		"no term in the body": {Head: []api.Term{a}, Body: []api.Term{fun("p", none)}},
		"too many tests":      {Head: []api.Term{a}, Guard: slices.Repeat([]api.Term{atom("true")}, 9)},
		"too many goals":      {Head: []api.Term{a}, Body: slices.Repeat([]api.Term{atom("p")}, 17)},
		"too many nodes":      {Head: []api.Term{broad(api.MaxClause + 1)}},
		"too many variables":  {Vars: 65, Head: []api.Term{fun("f", manyVariables(0, 33), manyVariables(33, 65))}},
	}
}

// manyVariables is a vector of some variables.
func manyVariables(from, to int) api.Term {
	out := vec()
	for v := from; v < to; v++ {
		out.L = append(out.L, variable(v))
	}
	return out
}

// TestP5_3_TakeErrors: what is no clause for the arguments, and which error comes first.
func TestP5_3_TakeErrors(t *testing.T) {
	c := clause("f(A)", "", "")
	for name, s := range badStores() {
		wantReply(t, name, take(s, []api.Term{a}, c), fails(api.ErrStore))
		wantReply(t, name+", no term, no clause", take(s, []api.Term{none}, api.Clause{}), fails(api.ErrStore))
	}
	s, large := unbound(3), unbound(api.MaxVar-api.MaxOwn+1)
	for _, bad := range badTerms() {
		wantReply(t, "no term", take(s, []api.Term{bad}, c), fails(api.ErrTerm))
		wantReply(t, "no term, no clause", take(s, []api.Term{a, bad}, c), fails(api.ErrTerm))
	}
	wantReply(t, "a variable behind", take(s, []api.Term{variable(3)}, c), fails(api.ErrTerm))
	for name, bad := range badClauses() {
		wantReply(t, name, take(s, []api.Term{a}, bad), fails(api.ErrClause))
		wantReply(t, name+", a large store", take(large, []api.Term{a}, bad), fails(api.ErrClause))
	}
	wantReply(t, "too few arguments", take(s, nil, c), fails(api.ErrClause))
	seventeen := slices.Repeat([]api.Term{a}, 17)
	wantReply(t, "16 arguments", take(s, seventeen[:16], api.Clause{Head: seventeen[:16]}), yes())
	wantReply(t, "17 arguments", take(s, seventeen, api.Clause{Head: seventeen}), fails(api.ErrClause))
	wantReply(t, "a large store", take(large, []api.Term{a}, c), fails(api.ErrLimit))
	wantReply(t, "a large store, no variables", take(large, nil, api.Clause{}), fails(api.ErrLimit))
	wantReply(t, "the largest store", take(unbound(api.MaxVar), nil, api.Clause{}), fails(api.ErrLimit))
	large.B = large.B[1:]
	last := variable(len(large.B) - 1)
	own := clause("A, B", "A == B, wait(B)", "")
	wantReply(t, "as large as can be", take(large, []api.Term{last, last}, own), waits(last.N))
	full := clause("{A}", "", "")
	full.Head[0], full.Vars = manyVariables(0, 64), 64
	full.Guard = []api.Term{fun("==", x, variable(63)), fun("=<", variable(63), x)}
	wantReply(t, "all variables, for none", take(large, []api.Term{last}, full), waits(last.N))
	args := vec(slices.Repeat([]api.Term{integer(7)}, 64)...)
	wantReply(t, "all variables", take(large, []api.Term{args}, full), binds(args.L...))
	for _, s := range []api.Store{unbound(api.MaxVar), unbound(api.MaxVar - api.MaxOwn + 1)} {
		v := variable(len(s.B) - 1)
		wantReply(t, "Match in any store", match(s, patterns("A, A"), []api.Term{v, v}), binds(v))
		wantReply(t, "Match in any store", match(s, patterns("A, A"), []api.Term{v, x}), waits(0, v.N))
		wantReply(t, "Test in any store", test(s, fun("==", v, a)), waits(v.N))
	}
}
