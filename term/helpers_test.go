package term_test

import (
	"math/rand"
	"slices"
	"testing"

	"riparian/api"
	"riparian/term"
)

func variable(n int) api.Term    { return api.Term{Kind: api.KVar, N: n} }
func integer(n int) api.Term     { return api.Term{Kind: api.KInt, N: n} }
func atom(s string) api.Term     { return api.Term{Kind: api.KAtom, S: s} }
func str(s string) api.Term      { return api.Term{Kind: api.KStr, S: s} }
func vec(l ...api.Term) api.Term { return api.Term{Kind: api.KVec, L: l} }
func fun(s string, l ...api.Term) api.Term {
	return api.Term{Kind: api.KFun, S: s, L: l}
}

var (
	x, y, z = variable(0), variable(1), variable(2)
	a, b, c = atom("a"), atom("b"), atom("c")
	empty   = atom("[]")
	free    = api.Term{}
)

// list builds cells by hand.
func list(tail api.Term, items ...api.Term) api.Term {
	for _, item := range slices.Backward(items) {
		tail = fun(".", item, tail)
	}
	return tail
}

// chain returns a term of so many nodes, each within the one ahead.
func chain(depth int, last api.Term) api.Term {
	for range depth - 1 {
		last = fun("f", last)
	}
	return last
}

// broad returns a term of depth 3 (or less) with so many nodes.
func broad(nodes int) api.Term {
	out := vec()
	for nodes--; nodes > 0; {
		row := vec()
		for nodes--; nodes > 0 && len(row.L) < api.MaxVec; nodes-- {
			row.L = append(row.L, a)
		}
		out.L = append(out.L, row)
	}
	return out
}

// equal compares two trees by hand.
func equal(s, t api.Term) bool {
	return s.Kind == t.Kind && s.N == t.N && s.S == t.S && slices.EqualFunc(s.L, t.L, equal)
}

func equalAll(s, t []api.Term) bool { return slices.EqualFunc(s, t, equal) }

// weigh counts by hand: nodes, those that are variables, and the depth.
func weigh(t api.Term) (nodes, vars, depth int) {
	nodes = 1
	if t.Kind == api.KVar {
		vars = 1
	}
	for _, e := range t.L {
		n, v, d := weigh(e)
		nodes, vars, depth = nodes+n, vars+v, max(depth, d)
	}
	return nodes, vars, depth + 1
}

// put substitutes by hand.
func put(t api.Term, l []api.Term) api.Term {
	if t.Kind == api.KVar && t.N < len(l) && l[t.N].Kind != 0 {
		return l[t.N]
	}
	out := t
	out.L = nil
	for _, e := range t.L {
		out.L = append(out.L, put(e, l))
	}
	return out
}

// leaves are terms of one node, of each kind.
func leaves() []api.Term {
	return []api.Term{x, y, z, integer(-1), integer(1), a, atom("aa"), str("a"), str(""), vec()}
}

// small are terms of few nodes: all of one, and those with one or two of a few within.
func small() []api.Term {
	out := leaves()
	few := []api.Term{x, y, integer(1), a, fun("f", x), fun("g", a), vec(y)}
	for _, s := range few {
		out = append(out, fun("f", s), fun("g", s), vec(s))
		for _, t := range few {
			out = append(out, fun("f", s, t), fun(".", s, t), vec(s, t))
		}
	}
	return out
}

// made returns a term by chance, the same one from the same source.
func made(r *rand.Rand, depth int) api.Term {
	l := leaves()
	if depth <= 1 || r.Intn(4) == 0 {
		return l[r.Intn(len(l))]
	}
	var parts []api.Term
	for range 1 + r.Intn(3) {
		parts = append(parts, made(r, depth-1))
	}
	switch r.Intn(4) {
	case 0:
		return vec(parts...)
	case 1:
		return fun("g", parts...)
	case 2:
		return list(made(r, depth-1), parts...)
	}
	return fun("f", parts...)
}

// madeSubst returns a substitution by chance.
func madeSubst(r *rand.Rand) []api.Term {
	var out []api.Term
	for range r.Intn(5) {
		if r.Intn(4) == 0 {
			out = append(out, free)
		} else {
			out = append(out, made(r, 3))
		}
	}
	return out
}

// bad are trees that are no terms.
func bad() []api.Term {
	return []api.Term{
		free, {Kind: 7}, {Kind: -1}, variable(-1), variable(api.MaxVar), integer(api.MaxInt + 1), atom(""), fun("f"),
		fun("f", a, free), vec(fun("g", fun("f"))), broad(api.MaxNodes + 1), chain(api.MaxDeep+1, a),
	}
}

func want[T comparable](t *testing.T, name string, got, wanted T) {
	t.Helper()
	if got != wanted {
		t.Errorf("%s: got %v, want %v", name, got, wanted)
	}
}

func wantTerm(t *testing.T, name string, got api.Term, e api.Errno, wanted api.Term) {
	t.Helper()
	if e != api.OK || !equal(got, wanted) {
		t.Errorf("%s: got %v, error %d, want %v", name, got, e, wanted)
	}
}

func wantTerms(t *testing.T, name string, got []api.Term, e api.Errno, wanted ...api.Term) {
	t.Helper()
	if e != api.OK || !equalAll(got, wanted) {
		t.Errorf("%s: got %v, error %d, want %v", name, got, e, wanted)
	}
}

// wantNoTerm wants an error, and nothing beside it.
func wantNoTerm(t *testing.T, name string, got api.Term, e, wanted api.Errno) {
	t.Helper()
	if e != wanted || !equal(got, free) {
		t.Errorf("%s: got %v, error %d, want error %d alone", name, got.Kind, e, wanted)
	}
}

// must returns a term that has to be there.
func must(t *testing.T, got api.Term, e api.Errno) api.Term {
	t.Helper()
	if e != api.OK {
		t.Fatalf("error %d", e)
	}
	return got
}

// subst is Subst where there is no error.
func subst(t *testing.T, s api.Term, l []api.Term) api.Term {
	t.Helper()
	out, e := term.Subst(s, l)
	return must(t, out, e)
}
