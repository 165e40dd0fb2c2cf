package read_test

import (
	"slices"
	"strings"
	"testing"

	"riparian/api"
	"riparian/read"
)

// TestP2_2_Simple: what stands alone, by the rules 1, 3, 5, 7 and 8.
func TestP2_2_Simple(t *testing.T) {
	wantTerm(t, "a", a)
	wantTerm(t, " a % b", a)
	wantTerm(t, "12", integer(12))
	wantTerm(t, "0012", integer(12))
	wantTerm(t, "-12", integer(-12))
	wantTerm(t, "-2147483647", integer(-api.MaxInt))
	wantTerm(t, "-0", integer(0))
	wantTerm(t, `"a\nb"`, str("a\nb"))
	wantTerm(t, "'+'", atom("+"))
	wantTerm(t, "'[]'", empty)
	wantTerm(t, "[]", empty)
	wantTerm(t, "[ ]", empty)
	wantTerm(t, "{}", vec())
	wantTerm(t, "{ }", vec())
	wantTerm(t, "--", atom("--"))
	wantTerm(t, "f(.)", fun("f", atom(".")))
	wantTerm(t, "X", x, "X")
	wantTerm(t, "_", x, "_")
}

// TestP2_2_Variables: the same name is the same variable; `_` is a new one each time; they are numbered as they come.
func TestP2_2_Variables(t *testing.T) {
	wantTerm(t, "f(Y, X, Y)", fun("f", x, y, x), "Y", "X")
	wantTerm(t, "f(_, X, _, X, _)", fun("f", x, y, z, y, variable(3)), "_", "X", "_", "_")
	wantTerm(t, "f(_a, _A, _a, __)", fun("f", x, y, x, z), "_a", "_A", "__")
	wantTerm(t, "[B|A] = {B}", fun("=", list(y, x), vec(x)), "B", "A")
	wantTerms(t, "f(X, Y). g(Y, X, Y).", fun("f", x, y), fun("g", x, y, x))
}

// TestP2_2_Structures: names directly ahead of brackets, whatever they are.
func TestP2_2_Structures(t *testing.T) {
	wantTerm(t, "f(a)", fun("f", a))
	wantTerm(t, "f( a , b )", fun("f", a, b))
	wantTerm(t, "'a b'(a)", fun("a b", a))
	wantTerm(t, "'f'(a)", fun("f", a))
	wantTerm(t, "'.'(a, [])", list(empty, a))
	wantTerm(t, ".(a, b)", list(b, a))
	wantTerm(t, ".(a)", fun(".", a))
	for _, name := range append(infixNames(), "--", "#") {
		if name == "," || name == "|" {
			continue
		}
		wantTerm(t, name+"(a)", fun(name, a))
		wantTerm(t, name+"(a, b)", fun(name, a, b))
		wantTerm(t, name+"(a, b, c)", fun(name, a, b, c))
		wantTerm(t, "'"+strings.ReplaceAll(name, "\\", "\\\\")+"'(a, b)", fun(name, a, b))
	}
	wantTerm(t, "','(a, b)", fun(",", a, b))
	wantTerm(t, "f((a, b))", fun("f", fun(",", a, b)))
	wantTerm(t, "f((a :- b), - c)", fun("f", fun(":-", a, b), fun("-", c)))
	wantTerm(t, "-(1)", fun("-", integer(1)))
	wantTerm(t, "-(a, b)", fun("-", a, b))
	wantTerm(t, "-(a) * b", fun("*", fun("-", a), b))
	wantTerm(t, "f(:-(a))", fun("f", fun(":-", a)))
}

// TestP2_2_Brackets: round ones take any term; square ones make cells, curly ones a vector.
func TestP2_2_Brackets(t *testing.T) {
	wantTerm(t, "((a))", a)
	wantTerm(t, "(a :- b)", fun(":-", a, b))
	wantTerm(t, "(a)", a)
	wantTerm(t, "[a, b | X]", list(x, a, b), "X")
	wantTerm(t, "[a | [b]]", list(empty, a, b))
	wantTerm(t, "[a | []]", list(empty, a))
	wantTerm(t, "[(a | b), (a, b) | (c | c)]", list(fun("|", c, c), fun("|", a, b), fun(",", a, b)))
	wantTerm(t, "[[]]", list(empty, empty))
	wantTerm(t, "{a, [b], {}, - c}", vec(a, list(empty, b), vec(), fun("-", c)))
	wantTerm(t, "(a , b) = c", fun("=", fun(",", a, b), c))
}

// TestP2_2_Minus: an integer, a prefix or an infix operator, by what stands ahead and behind.
func TestP2_2_Minus(t *testing.T) {
	minus := func(l ...api.Term) api.Term { return fun("-", l...) }
	wantTerm(t, "- 1", minus(integer(1)))
	wantTerm(t, "- -1", minus(integer(-1)))
	wantTerm(t, "- - 1", minus(minus(integer(1))))
	wantTerm(t, "- a", minus(a))
	wantTerm(t, "-a", minus(a))
	wantTerm(t, "- (1)", minus(integer(1)))
	wantTerm(t, "- (a, b)", minus(fun(",", a, b)))
	wantTerm(t, "a - 1", minus(a, integer(1)))
	wantTerm(t, "a -1", minus(a, integer(1)))
	wantTerm(t, "a-1", minus(a, integer(1)))
	wantTerm(t, "a - -1", minus(a, integer(-1)))
	wantTerm(t, "a - - 1", minus(a, minus(integer(1))))
	wantTerm(t, "a -(b)", minus(a, b))
	wantTerm(t, "a -(b, c)", minus(a, fun(",", b, c)))
	wantTerm(t, "a - -(b, c)", minus(a, minus(b, c)))
	wantTerm(t, "1-1", minus(integer(1), integer(1)))
	wantTerm(t, "-1-1", minus(integer(-1), integer(1)))
	wantTerm(t, "- a - b", minus(minus(a), b))
	wantTerm(t, "a mod-1", fun("mod", a, integer(-1)))
	wantNoTerm(t, "--1", 2, api.ErrSyntax)
	wantNoTerm(t, "-(1, 2)3", 7, api.ErrSyntax)
}

// TestP2_2_TooMuch: the byte of the first lexeme with which no text of a term begins, or the length where lexemes lack.
func TestP2_2_TooMuch(t *testing.T) {
	for text, at := range map[string]int{
		"": 0, "  ": 2, "% a": 3, "f(a": 3, "f(": 2, "f(a,": 4, "f(a, ": 5, "[a": 2, "[a|": 3, "[a|b": 4, "{a": 2, "{": 1, "[": 1, "(": 1, "(a": 2, "-": 1, ":-": 2, "a=": 2, "a :- b,": 7, "- ": 2, "+(": 2, ".(": 2,
		"+": 0, "mod": 0, "mod (a)": 0, "+ (a)": 0, "=": 0, "a = b = c": 6, "a = = b": 4, "a = +": 4, "a = +b": 4, "f(+)": 2, "f(+": 2, "(+)": 1, "a + mod": 4, "* a": 0,
		"f (a)": 2, "'f' (a)": 4, "X(a)": 1, "1(a)": 1, "\"s\"(a)": 3, "[](a)": 2, "f(a)(b)": 4, "(a)(b)": 3, "f()": 2, "-()": 2, "f(a,)": 4, "f(,a)": 2, "f(a b)": 4,
		"f(:- a)": 2, "f(:-": 2, "f(a :- b)": 4, "f(a | b)": 4, "[a :- b]": 3, "[:- a]": 1, "{a | b}": 3, "{:- a}": 1, "[a | b | c]": 7, "[a | b, c]": 6, "[a | ]": 5, "[ | a]": 2, "[a, | b]": 4, "[a,]": 3, "{a,}": 3, "{,}": 1,
		":- :- a": 3, "a :- :- b": 5, "a :- b :- c": 7, ":- a :- b": 5, "- :- a": 2, "a = :- b": 4, "a @ b @ c": 6, "a < b > c": 6, "(a = b) = c = d": 12, "a , :- b": 4, "a | :- b": 4,
		")": 0, "]": 0, "}": 0, ",": 0, "|": 0, "a)": 1, "(a]": 2, "[a)": 2, "{a]": 2, "f(a]": 3, "[a}": 2, "()": 1, "( )": 2, "a b": 2, "a X": 2, "1 2": 2, "a 'b'": 2, "a \"b\"": 2, "a [b]": 2, "a {}": 2, "X Y": 2, "a # b": 2, "a '+' b": 2, "'-' 1": 4, "'-'1": 3,
		".": 0, "a.": 1, "a. ": 1, "f(. )": 2, "f(a. )": 3, "- . ": 2, "a.b": 1, "a . b": 2,
	} {
		wantNoTerm(t, text, at, api.ErrSyntax)
	}
}

// TestP2_2_Terms: terms with a point behind each one.
func TestP2_2_Terms(t *testing.T) {
	wantTerms(t, "")
	wantTerms(t, " \n% a\n")
	wantTerms(t, "a.", a)
	wantTerms(t, "a. f(X) :- b.", a, fun(":-", fun("f", x), b))
	wantTerms(t, "a .%\n:- b.\n# .\n1.", a, fun(":-", b), atom("#"), integer(1))
	wantTerms(t, "X. Y.\n_.", x, x, x)
}

// TestP2_2_NoTerms: where a text is no longer one of terms.
func TestP2_2_NoTerms(t *testing.T) {
	for text, at := range map[string]int{
		"a": 1, "a. b": 4, "a. b ": 5, ".": 0, "a. .": 3, "a b.": 2, "a. b c.": 5, "f(a. b.": 3, "a.b.": 1, "a:-.": 1, "a:- .": 4, "a. +. b.": 6, "a. + . b.": 3, "a. f (a).": 5, "X.Y.": 1, "[a. ]": 2, "a. )": 3,
	} {
		wantNoTerms(t, text, at, api.ErrSyntax)
	}
}

// TestP2_2_Limits: what is too large for a term is told last, and counts of arguments and elements do not matter to what is too much.
func TestP2_2_Limits(t *testing.T) {
	commas := func(n int) string { return strings.Repeat("a,", n-1) + "a" }
	as := func(n int) []api.Term { return slices.Repeat([]api.Term{a}, n) }
	wantTerm(t, "f("+commas(16)+")", fun("f", as(16)...))
	wantNoTerm(t, "f("+commas(17)+")", 0, api.ErrLimit)
	wantNoTerm(t, "g(f("+commas(17)+"))", 0, api.ErrLimit)
	wantNoTerm(t, "f("+commas(17)+") b", 37, api.ErrSyntax)
	wantTerm(t, "{"+commas(64)+"}", vec(as(64)...))
	wantNoTerm(t, "{"+commas(65)+"}", 0, api.ErrLimit)
	wantNoTerm(t, "{"+commas(65)+"", 130, api.ErrSyntax)
	wantTerm(t, "["+commas(599)+"]", list(empty, as(599)...))
	wantNoTerm(t, "["+commas(600)+"]", 0, api.ErrLimit)
	wantTerm(t, strings.Repeat("- ", 599)+"a", deep(600))
	wantNoTerm(t, strings.Repeat("- ", 600)+"a", 0, api.ErrLimit)
	wantNoTerm(t, strings.Repeat("- ", 7999)+"a", 0, api.ErrLimit)
	wantNoTerm(t, strings.Repeat("- ", 8000)+"a", 0, api.ErrLimit)
	wantNoTerm(t, strings.Repeat("- ", 8000)+"a !", 16002, api.ErrLex)
	wantNoTerm(t, strings.Repeat("(", 8000), 8000, api.ErrSyntax)
	wantTerm(t, strings.Repeat("(", 3999)+"a"+strings.Repeat(")", 3999), a)
	wantNoTerm(t, strings.Repeat("a ", 10001), 0, api.ErrLimit)
	rows := strings.Repeat("{"+commas(64)+"},", 61)
	wantTerm(t, "{"+rows+"{"+commas(33)+"}}", broad(4000, a))
	wantNoTerm(t, "{"+rows+"{"+commas(34)+"}}", 0, api.ErrLimit)
	wantNoTerms(t, "a. f("+commas(17)+"). b.", 0, api.ErrLimit)
	wantNoTerms(t, "f("+commas(17)+"). b", 39, api.ErrSyntax)
	wantNoTerms(t, "f("+commas(17)+"). !", 38, api.ErrLex)
	wantTerms(t, "f("+commas(16)+"). f("+commas(16)+").", fun("f", as(16)...), fun("f", as(16)...))
	l, _, e := read.Terms(strings.Repeat("a.\n", 4000))
	if len(l) != 4000 || e != api.OK {
		t.Errorf("4000 terms: %d, error %d", len(l), e)
	}
	wantNoTerms(t, strings.Repeat("a.\n", 4001), 0, api.ErrLimit)
}

// deep returns a term of so many nodes, each the only one within the one ahead.
func deep(n int) api.Term {
	out := a
	for range n - 1 {
		out = fun("-", out)
	}
	return out
}
