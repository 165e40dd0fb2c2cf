package read_test

import (
	"slices"
	"strings"
	"testing"

	"riparian/api"
	"riparian/read"
)

// TestP2_3_Text: what is written of a term, with the least brackets and blanks.
func TestP2_3_Text(t *testing.T) {
	minus := func(l ...api.Term) api.Term { return fun("-", l...) }
	one, less := integer(1), integer(-1)
	for _, c := range []struct {
		t      api.Term
		wanted string
	}{
		{minus(a, minus(b, c)), "a-(b-c)"}, {minus(minus(a, b), c), "a-b-c"}, {minus(less), "-(-1)"}, {minus(one), "-(1)"}, {fun("*", a, less), "a* -1"},
		{fun("=", x, fun("f", atom("+"), str("a\n"))), `A=f('+',"a\n")`}, {fun("mod", a, b), "a mod b"}, {list(x, a), "[a|A]"},
		{fun(":-", fun(":-", a, b)), ":- (a:-b)"}, {minus(minus(a)), "- -a"}, {fun(".", a), "'.'(a)"}, {fun(".", a, b, c), "'.'(a,b,c)"},
		// prefix operators, or the brackets of structures
		{minus(a), "-a"}, {minus(x), "-A"}, {minus(str("")), `-""`}, {minus(vec()), "-{}"}, {minus(list(empty, a)), "-[a]"}, {minus(empty), "-[]"}, {minus(atom("#")), "- #"}, {minus(atom("+")), "-'+'"},
		{minus(integer(0)), "-(0)"}, {minus(minus(one)), "- -(1)"}, {minus(minus(minus(a))), "- - -a"}, {minus(fun("+", a, b)), "-(a+b)"}, {minus(fun(",", a, b)), "-((a,b))"}, {minus(fun(":-", a)), "-((:-a))"}, {minus(fun("f", a)), "-f(a)"},
		{minus(fun("+", a)), "- +(a)"}, {minus(a, b, c), "-(a,b,c)"}, {fun("+", a), "+(a)"}, {fun("mod", a), "mod(a)"}, {fun(":-", a), ":-a"}, {fun(":-", one), ":-1"}, {fun(":-", less), ":- -1"}, {fun(":-", fun(":-", a)), ":- (:-a)"},
		{fun(":-", fun(",", fun(",", a, b), c)), ":- (a,b),c"}, {fun(":-", a, b, c), ":-(a,b,c)"}, {fun(":-", atom(":-")), ":-':-'"}, {fun(":-", minus(a)), ":- -a"}, {fun(":-", vec()), ":-{}"},
		// infix operators
		{fun(":-", a, b), "a:-b"}, {fun("|", a, b), "a|b"}, {fun(",", a, b), "a,b"}, {fun("@", a, b), "a@b"}, {fun("=\\=", a, b), "a=\\=b"}, {fun("mod", one, integer(2)), "1 mod 2"}, {fun("mod", x, less), "A mod-1"},
		{fun("mod", list(empty, a), str("b")), `[a]mod"b"`}, {fun("mod", atom("A"), fun("+", a, b)), "'A'mod(a+b)"}, {minus(a, less), "a- -1"}, {minus(less, one), "-1-1"}, {minus(a, minus(b)), "a- -b"}, {minus(minus(a), b), "-a-b"},
		{minus(a, fun("-", one)), "a- -(1)"}, {fun("*", minus(a), b), "-a*b"}, {fun("*", fun("+", a, b), c), "(a+b)*c"}, {fun("+", a, fun("*", b, c)), "a+b*c"}, {fun("+", fun("*", a, b), c), "a*b+c"},
		{fun("=", fun("=", a, b), c), "(a=b)=c"}, {fun("=", a, fun("=", b, c)), "a=(b=c)"}, {fun(",", a, fun(",", b, c)), "a,b,c"}, {fun(",", fun(",", a, b), c), "(a,b),c"}, {fun("|", fun("|", a, b), c), "(a|b)|c"},
		{fun("=", atom("="), atom(":-")), "'='=':-'"}, {fun("=", atom(":"), atom("\\")), ": = \\"}, {fun("=", a, fun("=", b)), "a= =(b)"}, {fun(":-", fun(":-", a), b), "(:-a):-b"}, {fun(",", a, fun(":-", b)), "a,(:-b)"},
		{fun(",", a), "','(a)"}, {fun("|", a, b, c), "'|'(a,b,c)"},
		// arguments, cells and vectors
		{fun("f", fun(",", a, b), fun("=", a, b), fun("@", a, b), fun(":-", a)), "f((a,b),a=b,a@b,(:-a))"}, {vec(fun("|", a, b), minus(a)), "{(a|b),-a}"}, {vec(), "{}"}, {vec(empty), "{[]}"},
		{list(fun(",", a, b), fun(",", a, b)), "[(a,b)|(a,b)]"}, {list(empty, a, b), "[a,b]"}, {list(list(x, b), a), "[a,b|A]"}, {list(atom("+"), a), "[a|'+']"}, {list(str("[]"), a), `[a|"[]"]`}, {list(vec(), list(empty, a), x), "[[a],A|{}]"},
		{fun(",", list(fun(",", a, b), c), a), "[c|(a,b)],a"},
		// names
		{fun("[]", a), "'[]'(a)"}, {fun("{}", a), "'{}'(a)"}, {atom("[]"), "[]"}, {atom("{}"), "'{}'"}, {atom("."), "'.'"}, {atom(".."), ".."}, {atom("/*"), "'/*'"}, {atom("/*a"), "'/*a'"}, {atom("*/"), "*/"}, {atom("+/*"), "+/*"}, {atom("/**/"), "'/**/'"},
		{atom("%"), "'%'"}, {atom("A"), "'A'"}, {atom("_a"), "'_a'"}, {atom("1"), "'1'"}, {atom("aB_1"), "aB_1"}, {atom("a b"), "'a b'"}, {atom("a "), "'a '"}, {atom(" a"), "' a'"}, {atom("a+"), "'a+'"}, {atom("+a"), "'+a'"}, {atom("it's"), `'it\'s'`}, {atom("\\"), "\\"}, {atom("\\a"), `'\\a'`}, {atom("mod"), "'mod'"}, {atom("modx"), "modx"}, {atom("\""), `'"'`}, {atom(strings.Repeat("a", 32)), strings.Repeat("a", 32)},
		// numbers, strings, variables
		{integer(0), "0"}, {integer(api.MaxInt), "2147483647"}, {integer(-api.MaxInt), "-2147483647"}, {str("a'\"\\\n\t\x00\x1f ~\x7f\xff"), `"a'\"\\\n\x09\x00\x1f ~\x7f\xff"`}, {variable(25), "Z"}, {variable(26), "A1"}, {variable(99999), "D3846"}, {fun("f", z, x), "f(C,A)"},
	} {
		got, e := read.Text(c.t)
		wantText(t, "Text", got, e, c.wanted)
	}
}

// TestP2_3_Operators: each infix operator, with operands of each priority on both sides.
func TestP2_3_Operators(t *testing.T) {
	for name, op := range infixTable {
		for inner, in := range infixTable {
			operand := fun(inner, variable(0), variable(1))
			for side, most := range []int{op.Left, op.Right} {
				l := []api.Term{vec(), vec()}
				l[side] = operand
				written := text(t, fun(name, l...))
				want(t, written, strings.Contains(written, "("), in.Prio > most)
			}
		}
	}
}

// TestP2_3_Show: names for variables, and names that cannot be.
func TestP2_3_Show(t *testing.T) {
	s := fun("f", x, z, fun("mod", x, z))
	for _, c := range []struct {
		t      api.Term
		names  []string
		wanted string
	}{
		{s, []string{"Xs", "Unused", "_1"}, "f(Xs,_1,Xs mod _1)"}, {s, []string{"B", "C", "A", "D"}, "f(B,A,B mod A)"}, {a, nil, "a"}, {a, []string{"X"}, "a"}, {variable(0), []string{strings.Repeat("X", 32)}, strings.Repeat("X", 32)},
		{x, []string{"__"}, "__"}, {fun("-", x), []string{"_9"}, "-_9"},
	} {
		got, e := read.Show(c.t, c.names)
		wantText(t, "Show", got, e, c.wanted)
	}
	for _, name := range []string{"", "_", "a", "1", "x_", "X ", " X", "X%", "X/**/", "X.", "X,", "'X'", "Xé", "X!", "\"X\"", strings.Repeat("X", 33), strings.Repeat("X", 30000), "Y"} {
		for _, u := range []api.Term{a, x, fun("f", y, z)} {
			got, e := read.Show(u, []string{"X", name, "Y"})
			wantNoText(t, "Show with "+name, got, e, api.ErrArg)
		}
	}
	got, e := read.Show(fun("f", x, variable(3)), []string{"X", "Y", "Z"})
	wantNoText(t, "a name lacks", got, e, api.ErrArg)
	got, e = read.Show(x, nil)
	wantNoText(t, "all names lack", got, e, api.ErrArg)
}

// TestP2_3_Plain: all by brackets, but cells and vectors.
func TestP2_3_Plain(t *testing.T) {
	for wanted, s := range map[string]api.Term{
		`=(A,f('+',"a\n"))`: fun("=", x, fun("f", atom("+"), str("a\n"))),
		"-(-1)":             fun("-", integer(-1)), "-(a)": fun("-", a), ":-(-(-(a)))": fun(":-", fun("-", fun("-", a))),
		"','('|'(a,b),mod(c,A))": fun(",", fun("|", a, b), fun("mod", c, x)),
		"[-(a,b)|:-(a)]":         list(fun(":-", a), fun("-", a, b)), "{*(-1,'*')}": vec(fun("*", integer(-1), atom("*"))), "'.'(a)": fun(".", a), "[a]": list(empty, a),
	} {
		got, e := read.Plain(s)
		wantText(t, "Plain", got, e, wanted)
	}
}

// TestP2_3_Lines: each term with a point and a line feed; terms need not be terms together.
func TestP2_3_Lines(t *testing.T) {
	got, e := read.Lines(nil)
	wantText(t, "no lines", got, e, "")
	got, e = read.Lines([]api.Term{fun(":-", fun("p", x), a), atom("#"), atom("."), integer(1), fun("=", a, atom("\\")), fun("f", z), vec()})
	wantText(t, "lines", got, e, "p(A):-a.\n# .\n'.'.\n1.\na= \\ .\nf(C).\n{}.\n")
	got, e = read.Lines(slices.Repeat([]api.Term{broad(2000, integer(1))}, 3))
	if e != api.OK || strings.Count(got, "\n") != 3 || strings.Count(got, "1") != 3*(2000-1-31) {
		t.Errorf("6000 nodes: %d bytes, error %d", len(got), e)
	}
	got, e = read.Lines(slices.Repeat([]api.Term{a}, 6666))
	wantText(t, "19998 bytes", got, e, strings.Repeat("a.\n", 6666))
	got, e = read.Lines(append(slices.Repeat([]api.Term{a}, 6665), atom("aaa")))
	wantText(t, "20000 bytes", got, e, strings.Repeat("a.\n", 6665)+"aaa.\n")
	got, e = read.Lines(append(slices.Repeat([]api.Term{a}, 6665), atom("aaaa")))
	wantNoText(t, "20001 bytes", got, e, api.ErrLimit)
	got, e = read.Lines(slices.Repeat([]api.Term{a}, 100000))
	wantNoText(t, "300000 bytes", got, e, api.ErrLimit)
}

// TestP2_3_NoTerms: trees that are no terms have no text; this is told ahead of all else.
func TestP2_3_NoTerms(t *testing.T) {
	for _, s := range bad() {
		got, e := read.Text(s)
		wantNoText(t, "Text", got, e, api.ErrTerm)
		got, e = read.Plain(s)
		wantNoText(t, "Plain", got, e, api.ErrTerm)
		got, e = read.Show(s, []string{"a", "a"})
		wantNoText(t, "Show", got, e, api.ErrTerm)
		got, e = read.Lines([]api.Term{a, s, a})
		wantNoText(t, "Lines", got, e, api.ErrTerm)
		got, e = read.Lines(append(slices.Repeat([]api.Term{a}, 7000), s))
		wantNoText(t, "Lines that are too long", got, e, api.ErrTerm)
	}
}

// TestP2_3_Long: texts of 20000 bytes, and longer ones.
func TestP2_3_Long(t *testing.T) {
	long := broad(64, str(strings.Repeat("a", 255)))
	for range 14 {
		long.L = append(long.L, str(strings.Repeat("a", 255)))
	}
	for len(text(t, long)) < 19500 {
		long.L = append(long.L, str(strings.Repeat("a", 255)))
	}
	long.L = append(long.L, str(""), str(""))
	for i := range 2 {
		rest := 20000 - len(text(t, long))
		long.L[len(long.L)-1-i].S = strings.Repeat("a", min(rest, 255))
	}
	want(t, "bytes", len(text(t, long)), 20000)
	longer := vec(long.L...)
	longer.L = append(slices.Clone(long.L), a)
	for _, write := range []func(api.Term) (string, api.Errno){read.Text, read.Plain, func(s api.Term) (string, api.Errno) { return read.Show(s, nil) }} {
		got, e := write(long)
		if e != api.OK || len(got) != 20000 {
			t.Errorf("20000 bytes: %d, error %d", len(got), e)
		}
		got, e = write(longer)
		wantNoText(t, "20002 bytes", got, e, api.ErrLimit)
		got, e = write(broad(4000, str(strings.Repeat("\x00", 255))))
		wantNoText(t, "4 million bytes", got, e, api.ErrLimit)
	}
	got, e := read.Lines([]api.Term{long})
	wantNoText(t, "20002 bytes with the point", got, e, api.ErrLimit)
	got, e = read.Show(longer, []string{"x"})
	wantNoText(t, "names ahead of the length", got, e, api.ErrArg)
}
