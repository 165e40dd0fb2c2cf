package read_test

import (
	"math/rand"
	"slices"
	"strconv"
	"strings"
	"testing"

	"riparian/api"
	"riparian/read"
)

// wide returns a term whose text has 20000 bytes at most, but too many lexemes.
func wide() api.Term {
	row := vec(slices.Repeat([]api.Term{fun("f", fun("f", a))}, 20)...)
	return vec(slices.Repeat([]api.Term{row}, 60)...)
}

// TestP2_5_ReadBack: Term of Text is the term, normal; Terms of Lines are the terms.
func TestP2_5_ReadBack(t *testing.T) {
	var l []api.Term
	size := 0
	flush := func() {
		lines, e := read.Lines(l)
		if e != api.OK {
			t.Fatalf("Lines: error %d", e)
		}
		wanted := slices.Clone(l)
		for i, s := range l {
			wanted[i] = normal(t, s)
		}
		wantTerms(t, lines, wanted...)
		l, size = nil, 0
	}
	many(func(s api.Term) {
		written := text(t, s)
		if !isTerm(written, normal(t, s)) {
			t.Fatalf("Term(%q) is not %v", written, s)
		}
		lexemes := len(lex(t, written)) + 1
		if size+lexemes > api.MaxLexes || len(l) == 300 {
			flush()
		}
		l, size = append(l, s), size+lexemes
	})
	flush()
}

// TestP2_5_Large: terms at the limits, as far as their texts can be read.
func TestP2_5_Large(t *testing.T) {
	for _, s := range []api.Term{broad(4000, a), broad(2600, integer(-1)), chain(600, x), deep(600), list(empty, slices.Repeat([]api.Term{a}, 599)...), str(strings.Repeat("\xff", 255))} {
		wantTerm(t, text(t, s), s, slices.Repeat([]string{"A"}, strings.Count(text(t, s), "A"))...)
		lines, e := read.Lines([]api.Term{s})
		want(t, "Lines", e, api.OK)
		wantTerms(t, lines, s)
	}
	wantNoTerm(t, text(t, wide()), 0, api.ErrLimit)
	lines, e := read.Lines([]api.Term{wide()})
	want(t, "Lines", e, api.OK)
	wantNoTerms(t, lines, 0, api.ErrLimit)
}

// loose returns a text of the lexemes of a text, with a blank ahead of each one (where there is none, not ahead of a bracket or a number), and brackets around all of it.
func loose(t *testing.T, s string) string {
	out := "("
	l := lex(t, s)
	for i, x := range l {
		out += s[x.At:x.End]
		if i+1 < len(l) && (l[i+1].At > x.End || !isSign(l[i+1], "(") && l[i+1].Kind != api.LxInt) {
			out += " "
		}
	}
	return out + " )"
}

// TestP2_6_WrittenOnce: what is read of any text is written as a text that is read as the same, and written as the same.
func TestP2_6_WrittenOnce(t *testing.T) {
	for _, s := range []string{"((a))", "- 1", "-(1)", "-0", "007", "'a'", "'.'(a, [])", "[a | [b | [c]]]", "\"\\x41\"", "+(a, b)", "f(_, _)", "( a , b ) , c", "a /* b */ - % c\n -1", "- (a - b)", ":- (:- a)", "'-'(-(1))", "{ (a :- b) }", "[(a)|(b)]"} {
		checkOnce(t, s)
	}
	many(func(s api.Term) { checkOnce(t, loose(t, text(t, s))) })
}

func checkOnce(t *testing.T, s string) {
	t.Helper()
	got, _, at, e := read.Term(s)
	if e != api.OK {
		t.Fatalf("Term(%q): error %d at %d", s, e, at)
	}
	written := text(t, got)
	again, _, _, e := read.Term(written)
	if e != api.OK || !equal(again, got) {
		t.Fatalf("%q is written as %q, and that is another term", s, written)
	}
	want(t, s, text(t, again), written)
}

// endsTerm reports whether a term can end with a lexeme of a text that was written.
func endsTerm(l api.Lexeme) bool {
	if l.Kind == api.LxSign {
		return strings.Contains(")]}", l.S)
	}
	return l.Kind != api.LxName || !isOperator(l.S)
}

// roundPairs returns the brackets that do not stand behind the name of a structure, and where they close.
func roundPairs(l []api.Lexeme) [][2]api.Lexeme {
	var out [][2]api.Lexeme
	var open []int
	for i, x := range l {
		switch {
		case isSign(x, "("):
			open = append(open, i)
		case isSign(x, ")"):
			at := open[len(open)-1]
			open = open[:len(open)-1]
			behindName := at > 0 && isName(l[at-1]) && l[at-1].End == l[at].At && (at == 1 || !isOperator(l[at-1].S) || !endsTerm(l[at-2]))
			if !behindName {
				out = append(out, [2]api.Lexeme{l[at], x})
			}
		}
	}
	return out
}

// TestP2_7_Brackets: no bracket can be left out, nor can a blank stand for it.
func TestP2_7_Brackets(t *testing.T) {
	pairs := 0
	many(func(s api.Term) {
		written := text(t, s)
		s = normal(t, s)
		for _, p := range roundPairs(lex(t, written)) {
			pairs++
			for _, blank := range []string{"", " "} {
				without := written[:p[0].At] + blank + written[p[0].End:p[1].At] + blank + written[p[1].End:]
				if isTerm(without, s) {
					t.Fatalf("%q is written with more brackets than %q", written, without)
				}
			}
		}
	})
	if pairs < 10000 {
		t.Errorf("%d pairs of brackets were looked at", pairs)
	}
}

// TestP2_8_Blanks: no blank can be left out.
func TestP2_8_Blanks(t *testing.T) {
	blanks := 0
	many(func(s api.Term) {
		written := text(t, s)
		s = normal(t, s)
		l := lex(t, written)
		for i := 1; i < len(l); i++ {
			if l[i-1].End == l[i].At {
				continue
			}
			blanks++
			want(t, written, l[i].At, l[i-1].End+1)
			if without := written[:l[i-1].End] + written[l[i].At:]; isTerm(without, s) {
				t.Fatalf("%q is written with more blanks than %q", written, without)
			}
		}
	})
	if blanks < 10000 {
		t.Errorf("%d blanks were looked at", blanks)
	}
}

// mutated returns a text in which a lexeme was replaced, taken out or doubled by chance.
func mutated(t *testing.T, r *rand.Rand, s string) string {
	l := lex(t, s)
	x := l[r.Intn(len(l))]
	return s[:x.At] + []string{"", " ", x.S + " " + x.S, " ( ", " , ", " a ", " - ", " :- ", " . ", ") ", " =", "X Y"}[r.Intn(12)] + s[x.End:]
}

// someTexts calls a check for texts that are terms, and for others that are none (but have lexemes).
func someTexts(t *testing.T, check func(*rand.Rand, string)) {
	r := rand.New(rand.NewSource(9))
	for range 5000 {
		s := loose(t, text(t, made(r, 4)))
		check(r, s)
		s = mutated(t, r, s)
		if _, _, e := read.Lex(s); e == api.OK {
			check(r, s)
		}
	}
}

// TestP2_9_Space: more blanks and comments where there is a blank change nothing; errors move with their lexemes.
func TestP2_9_Space(t *testing.T) {
	someTexts(t, func(r *rand.Rand, s string) {
		wide, moved := spread(t, r, s)
		got, names, at, e := read.Term(s)
		again, spelt, place, f := read.Term(wide)
		if e != f || !equal(got, again) || !slices.Equal(names, spelt) || e != api.OK && moved[at] != place {
			t.Fatalf("%q: error %d at %d; %q: error %d at %d", s, e, at, wide, f, place)
		}
		l, at, e := read.Terms(s + " .")
		m, place, f := read.Terms(wide + " .")
		if e != f || !equalAll(l, m) || e != api.OK && at < len(s) && moved[at] != place {
			t.Fatalf("%q .: error %d at %d; %q .: error %d at %d", s, e, at, wide, f, place)
		}
	})
}

// spread returns a text with more blanks and comments where there is a blank, and where its lexemes, and its end, have come to.
func spread(t *testing.T, r *rand.Rand, s string) (string, map[int]int) {
	more := []string{" ", "  ", "\n", "\t\r\n ", " % ) . \n", " /* ( ' */ ", " /**/", "/***/ ", " %\n/* % */"}
	out, last := "", 0
	moved := map[int]int{}
	for _, x := range append(lex(t, s), api.Lexeme{At: len(s), End: len(s)}) {
		if gap := s[last:x.At]; gap != "" {
			out += gap + more[r.Intn(len(more))]
		}
		moved[x.At] = len(out)
		out += s[x.At:x.End]
		last = x.End
	}
	return out, moved
}

// TestP2_10_Names: other names of variables make the same term.
func TestP2_10_Names(t *testing.T) {
	someTexts(t, func(r *rand.Rand, s string) {
		renamed := ""
		last := 0
		var wanted []string
		number := r.Perm(40)
		for _, x := range lex(t, s) {
			if x.Kind == api.LxVar {
				name := []string{"_", "X", "Long_", "_A"}[number[0]%4] + strconv.Itoa(number[int(x.S[0])%26]) + "_" + x.S[1:]
				renamed += s[last:x.At] + name
				last = x.End
				if !slices.Contains(wanted, name) {
					wanted = append(wanted, name)
				}
			}
		}
		renamed += s[last:]
		got, _, _, e := read.Term(s)
		again, names, _, f := read.Term(renamed)
		if e != f || !equal(got, again) || e == api.OK && !slices.Equal(names, wanted) {
			t.Fatalf("%q: error %d; %q: error %d", s, e, renamed, f)
		}
	})
}

// TestP2_11_Plain: what Plain writes is read as the term; it has no operator with operands.
func TestP2_11_Plain(t *testing.T) {
	many(func(s api.Term) {
		written, e := read.Plain(s)
		if e != api.OK || !isTerm(written, normal(t, s)) {
			t.Fatalf("Plain of %v is %q, error %d", s, written, e)
		}
		l := lex(t, written)
		for i, x := range l {
			functor := i+1 < len(l) && isSign(l[i+1], "(") && l[i+1].At == x.End
			number := i+1 < len(l) && l[i+1].Kind == api.LxInt && l[i+1].At == x.End
			if x.Kind == api.LxName && isOperator(x.S) && !functor && !number {
				t.Fatalf("Plain of %v is %q", s, written)
			}
		}
	})
}

// TestP2_12_Behind: the terms of two texts are those of both; an error ahead of the end of the first one stays.
func TestP2_12_Behind(t *testing.T) {
	var before string
	someTexts(t, func(r *rand.Rand, s string) {
		s += []string{" .", "."}[r.Intn(2)]
		first, place, e := read.Terms(before)
		second, _, f := read.Terms(s)
		got, placed, g := read.Terms(before + "\n" + s)
		if e == api.OK && f == api.OK && (g != api.OK || !equalAll(got, append(first, second...))) {
			t.Fatalf("%q and %q: error %d at %d", before, s, g, placed)
		}
		if e == api.ErrSyntax && place < len(before) && (g != e || placed != place) {
			t.Fatalf("%q: error %d at %d; with %q: error %d at %d", before, e, place, s, g, placed)
		}
		before = s
	})
	wantTerms(t, "a.\nb.", a, b)
	wantNoTerms(t, "a = +\n(b).", 4, api.ErrSyntax)
	wantNoTerms(t, "f\n(b).", 2, api.ErrSyntax)
	wantTerms(t, "a -\n1.", fun("-", a, integer(1)))
}

// TestP2_13_TooMuch: what stands behind a lexeme that is too much does not matter.
func TestP2_13_TooMuch(t *testing.T) {
	told := 0
	rest := []string{"", "a", "(a)", ")", "1", ") ) )", ". ", ", b", "- c | d .", "% e", "/* f */ (", "(((", "]]]", "mod 1"}
	someTexts(t, func(r *rand.Rand, s string) {
		_, _, at, e := read.Term(s)
		if e != api.ErrSyntax || at == len(s) {
			return
		}
		told++
		for _, x := range lex(t, s) {
			if x.At != at {
				continue
			}
			for _, behind := range rest {
				wantNoTerm(t, s[:x.End]+" "+behind, at, api.ErrSyntax)
				if x.Kind != api.LxEnd && x.S != "." {
					wantNoTerms(t, s[:x.End]+" "+behind, at, api.ErrSyntax)
				}
			}
		}
	})
	if told < 1000 {
		t.Errorf("%d errors were looked at", told)
	}
}

// TestP2_14_Operators: of two operators the stronger one takes its operands first; of equal ones the table tells.
func TestP2_14_Operators(t *testing.T) {
	for first, p := range infixTable {
		for second, q := range infixTable {
			s := "a " + first + " b " + second + " c"
			left, right := fun(second, fun(first, a, b), c), fun(first, a, fun(second, b, c))
			switch {
			case p.Prio < q.Prio || p.Prio == q.Prio && p.Prio <= 500:
				wantTerm(t, s, left)
			case p.Prio > q.Prio || p.Prio == 1000 || p.Prio == 1100:
				wantTerm(t, s, right)
			default:
				wantNoTerm(t, s, len("a "+first+" b "), api.ErrSyntax)
			}
			wantTerm(t, "(a "+first+" b) "+second+" c", left)
			wantTerm(t, "a "+first+" (b "+second+" c)", right)
		}
		wantTerm(t, "- a "+first+" b", fun(first, fun("-", a), b))
		wantTerm(t, "a "+first+" - b", fun(first, a, fun("-", b)))
		if p.Prio < 1200 {
			wantTerm(t, ":- a "+first+" b", fun(":-", fun(first, a, b)))
			wantNoTerm(t, "a "+first+" :- b", len("a "+first+" "), api.ErrSyntax)
		}
	}
	wantTerm(t, "a - b - c - a", fun("-", fun("-", fun("-", a, b), c), a))
	wantTerm(t, "a , b , c , a", fun(",", a, fun(",", b, fun(",", c, a))))
	wantTerm(t, "a | b | c , a", fun("|", a, fun("|", b, fun(",", c, a))))
	wantTerm(t, "a + b * c mod a - b", fun("-", fun("+", a, fun("mod", fun("*", b, c), a)), b))
	wantTerm(t, "p(X) :- X > 0 | q(X), r", fun(":-", fun("p", x), fun("|", fun(">", x, integer(0)), fun(",", fun("q", x), atom("r")))), "X")
	wantTerm(t, "X + Y * X", fun("+", x, fun("*", y, x)), "X", "Y")
}
