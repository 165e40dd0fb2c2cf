package guard_test

import (
	"strings"
	"testing"

	"riparian/api"
)

// row is an expression, a test, or something else as a text, with what is wanted.
type row struct {
	text string
	want reply
}

// five is a store of X, Y, Z in which Y is bound to 5.
func five() api.Store { return store(3, "Y = 5") }

// TestP5_1_Number: numbers of values, of sums, and of what has none.
func TestP5_1_Number(t *testing.T) {
	for _, r := range []row{
		{"Y * 2 - 1", number(9)}, {"X + 1 / 0", no()}, {"X + Y", waits(0)}, {"-7 / 2", number(-3)}, {"-7 mod 2", number(-1)},
		{"2147483647 + 1", no()}, {"-(2147483647)", number(-api.MaxInt)}, {"a", no()},
		{"0", number(0)}, {"-2147483647", number(-api.MaxInt)}, {"Y", number(5)}, {"X", waits(0)}, {"-(X)", waits(0)}, {"-(-(Y))", number(5)},
		{"7 / 2", number(3)}, {"7 / -2", number(-3)}, {"-7 / -2", number(3)}, {"7 mod -2", number(1)}, {"-7 mod -2", number(-1)}, {"6 / 2", number(3)}, {"-6 mod 2", number(0)}, {"0 / 5", number(0)},
		{"1 / 0", no()}, {"1 mod 0", no()}, {"0 / 0", no()}, {"0 mod 0", no()}, {"Y / (Y - 5)", no()}, {"X / 0", waits(0)}, {"X mod 0", waits(0)}, {"0 / X", waits(0)}, {"0 * X", waits(0)}, {"X - X", waits(0)}, {"X * a", no()}, {"a * X", no()},
		{"Z + X", waits(0, 2)}, {"Z + X + Z + X", waits(0, 2)}, {"(X + 1 / 0) + Z", no()}, {"Z - (1 / 0 - X)", no()},
		{"65536 * 65536", no()}, {"-65536 * 65536", no()}, {"46340 * 46340", number(2147395600)}, {"-2147483647 - 1", no()}, {"-2147483647 + 0", number(-api.MaxInt)}, {"2147483647 * 1", number(api.MaxInt)}, {"2147483647 * -1", number(-api.MaxInt)},
		{"2147483647 + 1 - 1", no()}, {"2147483647 + (1 - 1)", number(api.MaxInt)}, {"X + (2147483647 + 1)", no()}, {"2147483647 * 2147483647", no()}, {"-2147483647 * 2147483647", no()},
		{`"1"`, no()}, {"{}", no()}, {"{1}", no()}, {"[]", no()}, {"[1]", no()}, {"f(X)", no()}, {"f(1, X)", no()}, {"+(1)", no()}, {"+(1, 2, 3)", no()}, {"-(1, 2, 3)", no()}, {"mod(1)", no()}, {"*(X)", no()}, {"1 + f(X)", no()}, {"1 < 2", no()},
	} {
		wantReply(t, "Number of "+r.text, numberIn(five(), of(r.text)), r.want)
	}
	for _, name := range []string{"+", "-", "*", "/", "mod"} {
		wantReply(t, "the atom "+name, numberIn(five(), atom(name)), no())
		wantReply(t, "three operands of "+name, numberIn(five(), fun(name, y, y, y)), no())
		wantReply(t, "a vector", numberIn(five(), vec(y, y)), no())
	}
}

// TestP5_1_Bound: variables that are bound to variables, and to sums.
func TestP5_1_Bound(t *testing.T) {
	s := store(6, "Y = X, Z = 2 * 3, U = Z, V = X + U, W = f(X)")
	for _, r := range []row{
		{"Z + 1", number(7)}, {"U", number(6)}, {"U - Z", number(0)}, {"Y", waits(0)}, {"V", waits(0)}, {"V + Y", waits(0)}, {"W", no()}, {"W + Y", no()}, {"-(W)", no()}, {"Z / (U - 6)", no()},
	} {
		wantReply(t, "Number of "+r.text, numberIn(s, of(r.text)), r.want)
	}
	chain := unbound(api.MaxVar)
	for v := range chain.B[1:] {
		chain.B[v+1] = variable(v)
	}
	last := variable(api.MaxVar - 1)
	wantReply(t, "a long chain", numberIn(chain, last), waits(0))
	chain.B[0] = of("2 + 3")
	wantReply(t, "a long chain to a sum", numberIn(chain, fun("+", last, last)), number(10))
}

// TestP5_1_Limit: 4000 terms are looked at, each as often as it stands.
func TestP5_1_Limit(t *testing.T) {
	s := unbound(1)
	wantReply(t, "4000 nodes", numberIn(s, sum(api.MaxNodes)), numberOf(s, sum(api.MaxNodes)))
	s.B[0] = sum(api.MaxNodes)
	wantReply(t, "a variable for 4000", numberIn(s, x), numberOf(s, x))
	wantReply(t, "4001", numberIn(s, fun("-", x)), fails(api.ErrLimit))
	wantReply(t, "4001 within", numberIn(s, of("X + a")), fails(api.ErrLimit))
	wantReply(t, "4001 behind", numberIn(s, of("a + X")), fails(api.ErrLimit))
	s.B[0] = sum(api.MaxNodes - 1)
	wantReply(t, "4000 again", numberIn(s, fun("-", x)), numberOf(s, fun("-", x)))
	s.B[0] = sum(2000)
	wantReply(t, "twice 2000", numberIn(s, of("X + X")), fails(api.ErrLimit))
	s.B[0] = sum(1999)
	wantReply(t, "twice 1999", numberIn(s, of("X + X")), number(2*numberOf(s, x).n))
	wantReply(t, "3 for 1", numberIn(s, of("(X + X) + 1")), fails(api.ErrLimit))
	s.B[0] = broad(api.MaxNodes)
	wantReply(t, "what is no sum is not looked into", numberIn(s, of("X + X")), no())
	s = unbound(40)
	for v := range s.B[1:] {
		s.B[v+1] = fun("*", variable(v), variable(v))
	}
	wantReply(t, "a product of very many", numberIn(s, variable(39)), fails(api.ErrLimit))
	wantReply(t, "a product of 1024", numberIn(s, variable(10)), waits(0))
	deep := unbound(api.MaxNodes)
	for v := range deep.B[1:] {
		deep.B[v+1] = fun("-", variable(v))
	}
	wantReply(t, "4000 within each other", numberIn(deep, variable(api.MaxNodes-1)), waits(0))
	wantReply(t, "4001 within each other", numberIn(deep, fun("-", variable(api.MaxNodes-1))), fails(api.ErrLimit))
}

// TestP5_1_Errors: what is no store, and what is no term over it.
func TestP5_1_Errors(t *testing.T) {
	for name, s := range badStores() {
		wantReply(t, name, numberIn(s, integer(1)), fails(api.ErrStore))
		wantReply(t, name+", no term", numberIn(s, none), fails(api.ErrStore))
	}
	for _, bad := range badTerms() {
		for _, s := range []api.Store{unbound(0), unbound(3)} {
			wantReply(t, "a bad term", numberIn(s, bad), fails(api.ErrTerm))
			wantReply(t, "a sum with a bad term", numberIn(s, fun("+", integer(1), bad)), fails(api.ErrTerm))
		}
	}
	wantReply(t, "the last variable", numberIn(unbound(3), z), waits(2))
	wantReply(t, "a variable behind", numberIn(unbound(2), z), fails(api.ErrTerm))
	wantReply(t, "a variable behind within", numberIn(unbound(2), of("f(a, {Z})")), fails(api.ErrTerm))
	wantReply(t, "no variables", numberIn(api.Store{}, x), fails(api.ErrTerm))
	wantReply(t, "a long name", numberIn(unbound(1), fun(strings.Repeat("a", 33), x)), fails(api.ErrTerm))
}
