package read_test

import (
	"math/rand"
	"slices"
	"strings"
	"testing"

	"riparian/api"
	"riparian/read"
)

// grammar finds all terms that lexemes can be, from the rules alone: it tries each rule, and each operator, at each place.
type grammar struct {
	l             []api.Lexeme
	infix, prefix map[string]api.Op
	seen          map[[2]int][]derived
}

// derived is a term that some lexemes are, with its priority. The number of a variable is where it stands first.
type derived struct {
	t    api.Term
	prio int
}

func isName(l api.Lexeme) bool           { return l.Kind == api.LxName || l.Kind == api.LxQuoted }
func isSign(l api.Lexeme, s string) bool { return l.Kind == api.LxSign && l.S == s }

func (g *grammar) glued(i int) bool { return i+1 < len(g.l) && g.l[i].End == g.l[i+1].At }

// upTo returns the terms from lexeme i up to the one ahead of j, up to a priority.
func (g *grammar) upTo(i, j, most int) []api.Term {
	var out []api.Term
	for _, d := range g.all(i, j) {
		if d.prio <= most {
			out = append(out, d.t)
		}
	}
	return out
}

func (g *grammar) all(i, j int) []derived {
	if i >= j {
		return nil
	}
	key := [2]int{i, j}
	if out, ok := g.seen[key]; ok {
		return out
	}
	var out []derived
	add := func(prio int, l ...api.Term) {
		for _, t := range l {
			out = append(out, derived{t, prio})
		}
	}
	first, last := g.l[i], g.l[j-1]
	functor := isName(first) && g.glued(i) && isSign(g.l[i+1], "(")
	minus := first.Kind == api.LxName && first.S == "-" && g.glued(i) && g.l[i+1].Kind == api.LxInt
	if j == i+1 {
		add(0, g.one(first)...)
	}
	if functor && j-i >= 4 && isSign(last, ")") {
		for _, l := range g.sequences(i+2, j-1) {
			add(0, fun(first.S, l...))
		}
	}
	if minus && j == i+2 {
		add(0, integer(-last.N))
	}
	if op, ok := g.prefix[first.S]; ok && first.Kind == api.LxName && !functor && !minus {
		for _, t := range g.upTo(i+1, j, op.Right) {
			add(op.Prio, fun(first.S, t))
		}
	}
	if isSign(first, "(") && isSign(last, ")") {
		add(0, g.upTo(i+1, j-1, 1200)...)
	}
	if isSign(first, "[") && isSign(last, "]") {
		add(0, g.lists(i+1, j-1)...)
	}
	if isSign(first, "{") && isSign(last, "}") {
		if j == i+2 {
			add(0, vec())
		}
		for _, l := range g.sequences(i+1, j-1) {
			add(0, vec(l...))
		}
	}
	for k := i + 1; k < j-1; k++ {
		op, ok := g.infix[g.l[k].S]
		if !ok || g.l[k].Kind != api.LxName && g.l[k].Kind != api.LxSign {
			continue
		}
		for _, left := range g.upTo(i, k, op.Left) {
			for _, right := range g.upTo(k+1, j, op.Right) {
				add(op.Prio, fun(g.l[k].S, left, right))
			}
		}
	}
	g.seen[key] = out
	return out
}

// one returns what a lexeme alone is.
func (g *grammar) one(l api.Lexeme) []api.Term {
	switch {
	case l.Kind == api.LxInt:
		return []api.Term{integer(l.N)}
	case l.Kind == api.LxStr:
		return []api.Term{str(l.S)}
	case l.Kind == api.LxQuoted || l.Kind == api.LxName && !isOperator(l.S):
		return []api.Term{atom(l.S)}
	case l.Kind == api.LxVar && l.S == "_":
		return []api.Term{variable(l.At)}
	case l.Kind == api.LxVar:
		first := slices.IndexFunc(g.l, func(x api.Lexeme) bool { return x.Kind == api.LxVar && x.S == l.S })
		return []api.Term{variable(g.l[first].At)}
	}
	return nil
}

// sequences returns the terms with commas between that lexemes are.
func (g *grammar) sequences(i, j int) [][]api.Term {
	var out [][]api.Term
	for _, t := range g.upTo(i, j, 999) {
		out = append(out, []api.Term{t})
	}
	for k := i + 1; k < j-1; k++ {
		if !isSign(g.l[k], ",") {
			continue
		}
		for _, t := range g.upTo(i, k, 999) {
			for _, rest := range g.sequences(k+1, j) {
				out = append(out, append([]api.Term{t}, rest...))
			}
		}
	}
	return out
}

// lists returns the lists that lexemes between square brackets are.
func (g *grammar) lists(i, j int) []api.Term {
	var out []api.Term
	if i == j {
		out = append(out, empty)
	}
	for _, items := range g.sequences(i, j) {
		out = append(out, list(empty, items...))
	}
	for k := i + 1; k < j-1; k++ {
		if !isSign(g.l[k], "|") {
			continue
		}
		for _, items := range g.sequences(i, k) {
			for _, tail := range g.upTo(k+1, j, 999) {
				out = append(out, list(tail, items...))
			}
		}
	}
	return out
}

// derive returns the terms that a text is by the rules.
func derive(t *testing.T, s string) []api.Term {
	g := &grammar{lex(t, s), infixTable, prefixTable, map[[2]int][]derived{}}
	return g.upTo(0, len(g.l), 1200)
}

// viable reports whether some text of a term begins with a text: with an operand, or without one, and then with the brackets that are open closed.
func viable(t *testing.T, s string) bool {
	var open []string
	for _, l := range lex(t, s) {
		closing := map[string]string{"(": ")", "[": "]", "{": "}"}[l.S]
		if l.Kind == api.LxSign && closing != "" {
			open = append(open, closing)
		} else if l.Kind == api.LxSign && strings.Contains(")]}", l.S) {
			if len(open) == 0 {
				return false
			}
			open = open[:len(open)-1]
		}
	}
	closed := ""
	for i := len(open) - 1; i >= 0; i-- {
		closed += " " + open[i]
	}
	return len(derive(t, s+closed)) > 0 || len(derive(t, s+" a"+closed)) > 0
}

// firstTooMuch returns the byte of the first lexeme that is too much. A name directly ahead of a bracket, or a minus directly ahead of a number, is one with it.
func firstTooMuch(t *testing.T, s string, known map[string]bool) int {
	l := lex(t, s)
	for i, x := range l {
		ends := s[:x.End]
		if i+1 < len(l) && l[i+1].At == x.End && (isSign(l[i+1], "(") && isName(x) || l[i+1].Kind == api.LxInt && x.S == "-") {
			if with := s[:l[i+1].End]; viableOnce(t, with, known) || viableOnce(t, ends, known) {
				continue
			}
			return x.At
		}
		if !viableOnce(t, ends, known) {
			return x.At
		}
	}
	return len(s)
}

func viableOnce(t *testing.T, s string, known map[string]bool) bool {
	out, ok := known[s]
	if !ok {
		out = viable(t, s)
		known[s] = out
	}
	return out
}

// checkText compares Term of a text with what the rules say.
func checkText(t *testing.T, s string, known map[string]bool) {
	t.Helper()
	got, names, at, e := read.Term(s)
	terms := derive(t, s)
	switch {
	case len(terms) > 1:
		t.Fatalf("the rules make %d terms of %q", len(terms), s)
	case len(terms) == 1:
		if e != api.OK || at != 0 || !equal(got, normal(t, terms[0])) {
			t.Fatalf("Term(%q): %v, byte %d, error %d, want %v", s, got, at, e, terms[0])
		}
	default:
		if place := firstTooMuch(t, s, known); e != api.ErrSyntax || at != place || !equal(got, none) || len(names) != 0 {
			t.Fatalf("Term(%q): byte %d, error %d, want byte %d", s, at, e, place)
		}
	}
}

// texts calls a check for all texts of up to n pieces.
func texts(pieces []string, n int, check func(string)) {
	var add func(string, int)
	add = func(s string, left int) {
		check(s)
		if left > 0 {
			for _, p := range pieces {
				add(s+p, left-1)
			}
		}
	}
	add("", n)
}

// TestP2_2_Rules: of all short texts Term makes what the rules say, just one term, or tells what is too much.
func TestP2_2_Rules(t *testing.T) {
	known := map[string]bool{}
	check := func(s string) { checkText(t, s, known) }
	texts([]string{"a ", "f(", "- ", "-1 ", "-", ":- ", ":-", "= ", "+ ", "@ ", ", ", "| ", "( ", ") ", "[ ", "] ", "{", "} ", "X ", "'-'"}, 3, check)
	texts([]string{"a ", "- ", ":- ", "= ", ", ", "* ", "| "}, 5, check)
	texts([]string{"1 ", "[", "]", "|", ",", "-"}, 5, check)
}

// TestP2_2_LongerTexts: the same of longer texts by chance, most of them near to terms.
func TestP2_2_LongerTexts(t *testing.T) {
	r := rand.New(rand.NewSource(22))
	pieces := []string{"a", "f(", "-", "- ", "-1", ":-", ":- ", "=", "+", "*", " mod ", "@", ",", "|", "(", ")", "[", "]", "{", "}", "X", "_", "'-'", "2", "\"s\"", " ", ","}
	for range 10000 {
		s := ""
		for range 3 + r.Intn(5) {
			s += pieces[r.Intn(len(pieces))]
		}
		if _, _, e := read.Lex(s); e == api.OK {
			checkText(t, s, map[string]bool{})
		}
	}
	for range 10000 {
		s := text(t, made(r, 3))
		l := lex(t, s)
		if len(l) > 14 {
			continue
		}
		at := l[r.Intn(len(l))]
		s = s[:at.At] + []string{"", " ", at.S + " " + at.S, "(", ",", " a ", " - "}[r.Intn(7)] + s[at.End:]
		if _, _, e := read.Lex(s); e == api.OK {
			checkText(t, s, map[string]bool{})
		}
	}
}
