package read_test

import (
	"fmt"
	"maps"
	"math/rand"
	"slices"
	"strings"
	"testing"

	"riparian/api"
	"riparian/read"
	"riparian/term"
)

func variable(n int) api.Term    { return api.Term{Kind: api.KVar, N: n} }
func integer(n int) api.Term     { return api.Term{Kind: api.KInt, N: n} }
func atom(s string) api.Term     { return api.Term{Kind: api.KAtom, S: s} }
func str(s string) api.Term      { return api.Term{Kind: api.KStr, S: s} }
func vec(l ...api.Term) api.Term { return api.Term{Kind: api.KVec, L: l} }
func fun(s string, l ...api.Term) api.Term {
	return api.Term{Kind: api.KFun, S: s, L: l}
}

var (
	x, y, z = variable(0), variable(1), variable(2)
	a, b, c = atom("a"), atom("b"), atom("c")
	empty   = atom("[]")
	none    = api.Term{}
)

// list builds cells by hand.
func list(tail api.Term, items ...api.Term) api.Term {
	for _, item := range slices.Backward(items) {
		tail = fun(".", item, tail)
	}
	return tail
}

// chain returns a term of so many nodes, each within the one ahead.
func chain(depth int, last api.Term) api.Term {
	for range depth - 1 {
		last = fun("f", last)
	}
	return last
}

// broad returns a term of depth 3 (or less) with so many nodes, the last ones alike.
func broad(nodes int, leaf api.Term) api.Term {
	out := vec()
	for nodes--; nodes > 0; {
		row := vec()
		for nodes--; nodes > 0 && len(row.L) < api.MaxVec; nodes-- {
			row.L = append(row.L, leaf)
		}
		out.L = append(out.L, row)
	}
	return out
}

// bad are trees that are no terms.
func bad() []api.Term {
	return []api.Term{
		none, {Kind: 7}, {Kind: -1}, variable(-1), variable(api.MaxVar), integer(api.MaxInt + 1), atom(""), fun("f"),
		atom("a\n"), atom(strings.Repeat("a", 33)), str(strings.Repeat("a", 256)), fun("f", a, none), vec(fun("g", fun("f"))),
		{Kind: api.KInt, S: "a"}, broad(api.MaxNodes+1, a), chain(api.MaxDeep+1, a), fun("-", integer(-api.MaxInt-1)),
	}
}

// equal compares two trees by hand.
func equal(s, t api.Term) bool {
	return s.Kind == t.Kind && s.N == t.N && s.S == t.S && slices.EqualFunc(s.L, t.L, equal)
}

func equalAll(s, t []api.Term) bool { return slices.EqualFunc(s, t, equal) }

func want[T comparable](t *testing.T, name string, got, wanted T) {
	t.Helper()
	if got != wanted {
		t.Errorf("%q: got %v, want %v", name, got, wanted)
	}
}

// brief returns how a value is told, up to some length.
func brief(x any) string {
	s := fmt.Sprint(x)
	return s[:min(len(s), 200)]
}

// wantText wants a text without an error.
func wantText(t *testing.T, name, got string, e api.Errno, wanted string) {
	t.Helper()
	if e != api.OK || got != wanted {
		t.Errorf("%s: got %q, error %d, want %q", name, got, e, wanted)
	}
}

// wantNoText wants an error, and nothing beside it.
func wantNoText(t *testing.T, name, got string, e, wanted api.Errno) {
	t.Helper()
	if e != wanted || got != "" {
		t.Errorf("%s: got %d bytes, error %d, want error %d alone", name, len(got), e, wanted)
	}
}

// wantTerm wants what Term returns where there is no error.
func wantTerm(t *testing.T, text string, wanted api.Term, names ...string) {
	t.Helper()
	got, vars, at, e := read.Term(text)
	if e != api.OK || at != 0 || !equal(got, wanted) || !slices.Equal(vars, names) {
		t.Errorf("Term(%.80q): got %s, names %.80q, byte %d, error %d, want %s, %.80q", text, brief(got), vars, at, e, brief(wanted), names)
	}
}

// wantNoTerm wants an error of Term at a byte, and nothing beside it.
func wantNoTerm(t *testing.T, text string, at int, wanted api.Errno) {
	t.Helper()
	got, vars, place, e := read.Term(text)
	if e != wanted || place != at || !equal(got, none) || len(vars) != 0 {
		t.Errorf("Term(%.80q): got kind %d, names %q, byte %d, error %d, want byte %d, error %d alone", text, got.Kind, vars, place, e, at, wanted)
	}
}

// wantTerms wants what Terms returns where there is no error.
func wantTerms(t *testing.T, text string, wanted ...api.Term) {
	t.Helper()
	got, at, e := read.Terms(text)
	if e != api.OK || at != 0 || !equalAll(got, wanted) {
		t.Errorf("Terms(%.80q): got %s, byte %d, error %d, want %s", text, brief(got), at, e, brief(wanted))
	}
}

// wantNoTerms wants an error of Terms at a byte, and nothing beside it.
func wantNoTerms(t *testing.T, text string, at int, wanted api.Errno) {
	t.Helper()
	got, place, e := read.Terms(text)
	if e != wanted || place != at || len(got) != 0 {
		t.Errorf("Terms(%.80q): got %d terms, byte %d, error %d, want byte %d, error %d alone", text, len(got), place, e, at, wanted)
	}
}

// normal returns a term with its variables numbered anew.
func normal(t *testing.T, s api.Term) api.Term {
	t.Helper()
	l, _, e := term.Normal([]api.Term{s})
	if e != api.OK {
		t.Fatalf("Normal: error %d", e)
	}
	return l[0]
}

// text is Text where there is no error.
func text(t *testing.T, s api.Term) string {
	t.Helper()
	out, e := read.Text(s)
	if e != api.OK {
		t.Fatalf("Text of %v: error %d", s, e)
	}
	return out
}

// lex is Lex where there is no error.
func lex(t *testing.T, s string) []api.Lexeme {
	t.Helper()
	l, at, e := read.Lex(s)
	if e != api.OK {
		t.Fatalf("Lex(%q): error %d at %d", s, e, at)
	}
	return l
}

// isTerm reports whether a text is a certain term, which is normal.
func isTerm(s string, t api.Term) bool {
	got, _, _, e := read.Term(s)
	return e == api.OK && equal(got, t)
}

// infixTable and prefixTable are the table of operators, written out.
var (
	infixTable = map[string]api.Op{
		":-": {Prio: 1200, Left: 1199, Right: 1199}, "|": {Prio: 1100, Left: 1099, Right: 1100}, ",": {Prio: 1000, Left: 999, Right: 1000}, "@": {Prio: 900, Left: 899, Right: 899},
		"=": comparison, "==": comparison, "\\==": comparison, "=:=": comparison, "=\\=": comparison, "<": comparison, "=<": comparison, ">": comparison, ">=": comparison, ":=": comparison,
		"+": {Prio: 500, Left: 500, Right: 499}, "-": {Prio: 500, Left: 500, Right: 499}, "*": {Prio: 400, Left: 400, Right: 399}, "/": {Prio: 400, Left: 400, Right: 399}, "mod": {Prio: 400, Left: 400, Right: 399},
	}
	prefixTable = map[string]api.Op{":-": {Prio: 1200, Right: 1199}, "-": {Prio: 200, Right: 200}}
	comparison  = api.Op{Prio: 700, Left: 699, Right: 699}
)

// infixNames are the names of the infix operators, sorted; those of the prefix operators are among them.
func infixNames() []string { return slices.Sorted(maps.Keys(infixTable)) }

// isOperator reports whether a name is one of the table.
func isOperator(name string) bool { return infixTable[name].Prio > 0 }

// leaves are terms of one node, of each kind, and with names of each kind.
func leaves() []api.Term {
	out := []api.Term{x, y, z, variable(26), integer(0), integer(1), integer(-1), integer(api.MaxInt), integer(-api.MaxInt), str(""), str("a"), str("'\"\\\n\x00 %"), vec()}
	for _, name := range append(infixNames(), "a", "aB_1", "mod2", "[]", "{}", ".", "..", "#", "+.", "/*", "*/", "//*", "%", "!", "A", "_", "1", "a b", "it's", "\\", "'", "\"", "~") {
		out = append(out, atom(name))
	}
	return out
}

// small are all terms that few leaves, and operators of each kind, make in two layers.
func small() []api.Term {
	few := []string{":-", ",", "=", "-", "mod", "."}
	return layer(layer([]api.Term{a, x, integer(-1)}, few), few)
}

// layer returns terms, and those that have one or two of them within.
func layer(l []api.Term, names []string) []api.Term {
	out := slices.Clone(l)
	for _, s := range l {
		out = append(out, fun("-", s), fun(":-", s), fun("f", s), vec(s))
		for _, t := range l {
			for _, name := range names {
				out = append(out, fun(name, s, t))
			}
		}
	}
	return out
}

// made returns a term by chance, the same one from the same source.
func made(r *rand.Rand, depth int) api.Term {
	if depth <= 1 || r.Intn(4) == 0 {
		l := leaves()
		return l[r.Intn(len(l))]
	}
	ops := infixNames()
	switch r.Intn(6) {
	case 0:
		return fun([]string{"-", ":-"}[r.Intn(2)], made(r, depth-1))
	case 1:
		return vec(madeList(r, depth, 3)...)
	case 2:
		return list([]api.Term{empty, x, a, fun(",", a, b)}[r.Intn(4)], madeList(r, depth, 2)...)
	case 3:
		name := append(ops, "f", "[]", ".", "A", "a b", "#", "/*")[r.Intn(len(ops)+7)]
		return fun(name, madeList(r, depth, 3)...)
	}
	return fun(ops[r.Intn(len(ops))], made(r, depth-1), made(r, depth-1))
}

// madeList returns 1 to most terms by chance.
func madeList(r *rand.Rand, depth, most int) []api.Term {
	out := []api.Term{made(r, depth-1)}
	for range r.Intn(most) {
		out = append(out, made(r, depth-1))
	}
	return out
}

// many calls a check for small terms, for leaves, and for terms by chance.
func many(check func(api.Term)) {
	for _, s := range append(small(), leaves()...) {
		check(s)
	}
	r := rand.New(rand.NewSource(2))
	for range 10000 {
		check(made(r, 2+r.Intn(4)))
	}
}
