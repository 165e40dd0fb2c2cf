package prog_test

import (
	"testing"

	"riparian/api"
	"riparian/prog"
)

// TestP4_1_Expr: integers, variables, and operators of such.
func TestP4_1_Expr(t *testing.T) {
	for _, text := range []string{
		"1", "-1", "X", "X + 1", "1 - X", "X * X", "X / 0", "X mod 2", "-(1)", "- X", "-(X + 1)", "(1 + X) * (2 - Y) / 3 mod -(Z)",
	} {
		want(t, text, prog.Expr(of(text)), true)
	}
	for _, text := range []string{
		"a", "'+'", "[]", "\"1\"", "{}", "{1}", "f(X)", "X + a", "a + X", "1 + 2 * \"3\"", "+(1)", "-(1, 2, 3)", "mod(1)", "*(1)", "/(1)", "'-'(a)", "X =:= 1", "1 < 2", "X := 1", "[1]", "1 + (2, 3)", "'mod'(1, f(X))",
	} {
		want(t, text, prog.Expr(of(text)), false)
	}
	want(t, "600 deep", prog.Expr(chain("-", api.MaxDeep, x)), true)
	want(t, "601 deep", prog.Expr(chain("-", api.MaxDeep+1, x)), false)
	for i, w := range badTerms() {
		want(t, "no term", prog.Expr(w) || prog.Expr(fun("+", x, w)), false)
		want(t, "no term in a test", prog.Test(w) || prog.Test(fun("wait", w)) || prog.Test(fun("<", x, w)), false)
		if i > 0 {
			want(t, "no term beside a term", prog.Expr(fun("-", w, x)), false)
		}
	}
}

// TestP4_1_Test: each kind of test, with any terms, or with expressions.
func TestP4_1_Test(t *testing.T) {
	for _, text := range []string{
		"true", "wait(X)", "wait(f(X))", "integer(a)", "atom(1)", "string(X)", "vector({})", "list([])", "X == a", "f(X) \\== {Y}",
		"X =:= 1", "1 =\\= Y", "X < Y + 1", "X =< 1", "1 > 2", "X >= X mod 3", "- X < -1",
	} {
		want(t, text, prog.Test(of(text)), true)
	}
	for _, text := range []string{
		"X", "1", "a", "otherwise", "\"true\"", "{}", "[]", "wait", "wait(X, Y)", "true(X)", "integer", "list(X, Y)", "number(X)", "X = a", "X := 1", "==(X)", "==(X, Y, Z)",
		"X < a", "a < X", "X =:= f(1)", "1 =\\= \"1\"", "X =< {}", "[] > 1", "X + a >= 1", "<(1)", "<(1, 2, 3)", "wait(X), wait(Y)", "wait(X) @ 1", "p(X)", "X | Y",
	} {
		want(t, text, prog.Test(of(text)), false)
	}
}

// TestP4_1_Goal: the kind, the priority, and what is left without it.
func TestP4_1_Goal(t *testing.T) {
	for _, x := range []struct {
		text string
		kind int
		prio int
		bare string
	}{
		{"true", api.GoTrue, 0, "true"}, {"true @ 7", api.GoTrue, 7, "true"},
		{"X = Y", api.GoUnify, 0, "X = Y"}, {"X = Y @ 15", api.GoUnify, 15, "X = Y"}, {"1 = a", api.GoUnify, 0, "1 = a"},
		{"X := Y + 1", api.GoIs, 0, "X := Y + 1"}, {"1 := a", api.GoIs, 0, "1 := a"}, {"X := 1 @ 0", api.GoIs, 0, "X := 1"},
		{"vector_new(X, Y)", api.GoData, 0, "vector_new(X, Y)"}, {"vector_size(a, Y, Z)", api.GoData, 0, "vector_size(a, Y, Z)"}, {"vector_get(1, 2, 3, 4)", api.GoData, 0, "vector_get(1, 2, 3, 4)"}, {"vector_set(X, Y, Z, {}) @ 1", api.GoData, 1, "vector_set(X, Y, Z, {})"},
		{"string_new(X, Y)", api.GoData, 0, "string_new(X, Y)"}, {"string_size(X, Y, Z)", api.GoData, 0, "string_size(X, Y, Z)"}, {"string_get(X, Y, Z, a)", api.GoData, 0, "string_get(X, Y, Z, a)"}, {"string_set(X, Y, Z, a)", api.GoData, 0, "string_set(X, Y, Z, a)"}, {"string_join(X, Y, Z)", api.GoData, 0, "string_join(X, Y, Z)"},
		{"p", api.GoCall, 0, "p"}, {"p(X) @ 3", api.GoCall, 3, "p(X)"}, {"[]", api.GoCall, 0, "[]"}, {"[X]", api.GoCall, 0, "[X]"}, {"X < Y", api.GoCall, 0, "X < Y"}, {"wait(X)", api.GoCall, 0, "wait(X)"}, {"X == Y", api.GoCall, 0, "X == Y"}, {"X + Y", api.GoCall, 0, "X + Y"},
		{"true(X)", api.GoCall, 0, "true(X)"}, {"=(X)", api.GoCall, 0, "=(X)"}, {"'='", api.GoCall, 0, "'='"}, {":=(X, Y, Z)", api.GoCall, 0, ":=(X, Y, Z)"}, {"vector_new(X)", api.GoCall, 0, "vector_new(X)"}, {"string_join(X, Y)", api.GoCall, 0, "string_join(X, Y)"}, {"vector_get(X, Y, Z)", api.GoCall, 0, "vector_get(X, Y, Z)"},
		{"otherwise(X)", api.GoCall, 0, "otherwise(X)"}, {"'@'(X)", api.GoCall, 0, "'@'(X)"}, {"'@'(p, 1, 2)", api.GoCall, 0, "'@'(p, 1, 2)"}, {"':-'", api.GoCall, 0, "':-'"}, {"'|'(X)", api.GoCall, 0, "'|'(X)"}, {"','(X, Y, Z)", api.GoCall, 0, "','(X, Y, Z)"},
	} {
		kind, prio, bare := prog.Goal(of(x.text))
		if kind != x.kind || prio != x.prio || !equal(bare, of(x.bare)) {
			t.Errorf("Goal of %s: got %d, %d, %v", x.text, kind, prio, bare)
		}
	}
	var wrong []api.Term
	for _, text := range []string{
		"X", "1", "\"p\"", "{}", "{p}", "p @ 16", "p @ -1", "p @ X", "p @ a", "X @ 1", "1 @ 1", "otherwise @ 1", "(p, q) @ 1", "p, q", "p | q", "p :- q", ":- p", "otherwise", "alternatively", "p @ f(1)", "(p @ 1) @ 2", "(true @ 1) @ 1", "(p @ 16) @ 1",
	} {
		wrong = append(wrong, of(text))
	}
	for i, w := range append(wrong, badTerms()...) {
		kind, prio, bare := prog.Goal(w)
		if kind != api.GoNone || prio != 0 || !equal(bare, none) {
			t.Errorf("%d: Goal of %v: got %d, %d, %v", i, w, kind, prio, bare)
		}
	}
}

// TestP4_1_Reserved: just what no procedure can be.
func TestP4_1_Reserved(t *testing.T) {
	reserved := map[api.Symbol]bool{
		{Name: "true", Arity: 0}: true, {Name: "=", Arity: 2}: true, {Name: ":=", Arity: 2}: true, {Name: "@", Arity: 2}: true, {Name: ":-", Arity: 2}: true, {Name: ":-", Arity: 1}: true, {Name: ",", Arity: 2}: true, {Name: "|", Arity: 2}: true,
		{Name: "otherwise", Arity: 0}: true, {Name: "alternatively", Arity: 0}: true,
		{Name: "vector_new", Arity: 2}: true, {Name: "vector_size", Arity: 3}: true, {Name: "vector_get", Arity: 4}: true, {Name: "vector_set", Arity: 4}: true,
		{Name: "string_new", Arity: 2}: true, {Name: "string_size", Arity: 3}: true, {Name: "string_get", Arity: 4}: true, {Name: "string_set", Arity: 4}: true, {Name: "string_join", Arity: 3}: true,
	}
	names := []string{"", "p", "[]", ".", "wait", "==", "<", "+", "-", "mod", "vector_join", "True", "true "}
	for s := range reserved {
		names = append(names, s.Name)
	}
	for _, name := range names {
		for arity := -1; arity <= 17; arity++ {
			s := symbol(name, arity)
			if prog.Reserved(s) != reserved[s] {
				t.Errorf("Reserved of %v: got %v", s, !reserved[s])
			}
		}
	}
}
