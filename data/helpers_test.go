package data_test

import (
	"math/rand"
	"slices"
	"strings"
	"testing"

	"riparian/api"
	"riparian/data"
	"riparian/read"
	"riparian/unify"
)

func variable(n int) api.Term    { return api.Term{Kind: api.KVar, N: n} }
func integer(n int) api.Term     { return api.Term{Kind: api.KInt, N: n} }
func atom(s string) api.Term     { return api.Term{Kind: api.KAtom, S: s} }
func str(s string) api.Term      { return api.Term{Kind: api.KStr, S: s} }
func vec(l ...api.Term) api.Term { return api.Term{Kind: api.KVec, L: l} }
func fun(s string, l ...api.Term) api.Term {
	return api.Term{Kind: api.KFun, S: s, L: l}
}

var (
	x, y, z, w = variable(0), variable(1), variable(2), variable(3)
	a, b, c, d = atom("a"), atom("b"), atom("c"), atom("d")
	none       = api.Term{}
)

// of is the term of a text, in which X, Y, Z, W, U, V are the variables 0 to 5.
func of(text string) api.Term {
	t, _, at, e := read.Term("{v(X, Y, Z, W, U, V), " + text + "}")
	if e != api.OK || len(t.L) != 2 {
		panic(text + " goes wrong at " + text[min(max(at-23, 0), len(text)):])
	}
	return t.L[1]
}

// pairs are equations as `X = a, Y = {}`.
func pairs(text string) []api.Pair {
	var out []api.Pair
	if text == "" {
		return nil
	}
	for _, t := range of("{" + text + "}").L {
		out = append(out, api.Pair{A: t.L[0], B: t.L[1]})
	}
	return out
}

// unbound is a store of n unbound variables.
func unbound(n int) api.Store { return api.Store{B: make([]api.Term, n)} }

// store is the store of n variables with bindings as `X = a, Z = f(X)`.
func store(n int, bindings string) api.Store {
	s := unbound(n)
	for _, p := range pairs(bindings) {
		s.B[p.A.N] = p.B
	}
	if e := unify.Check(s); e != api.OK {
		panic(bindings)
	}
	return s
}

// many is a list of n terms that are the same.
func many(n int, t api.Term) []api.Term { return slices.Repeat([]api.Term{t}, n) }

// chain returns a term of so many nodes, each within the one ahead.
func chain(depth int, last api.Term) api.Term {
	for range depth - 1 {
		last = fun("f", last)
	}
	return last
}

// broad returns a term of depth 3 (or less) with so many nodes.
func broad(nodes int) api.Term {
	out := vec()
	for nodes--; nodes > 0; {
		row := vec()
		for nodes--; nodes > 0 && len(row.L) < api.MaxVec; nodes-- {
			row.L = append(row.L, a)
		}
		out.L = append(out.L, row)
	}
	return out
}

// badTerms are trees that are no terms.
func badTerms() []api.Term {
	return []api.Term{
		none, {Kind: 7}, {Kind: -1}, {N: 1}, {S: "a"}, {L: []api.Term{a}}, variable(-1), variable(api.MaxVar), integer(api.MaxInt + 1), integer(-api.MaxInt - 1), atom(""), fun("f"),
		atom("a\n"), atom(strings.Repeat("a", 33)), str(strings.Repeat("a", 256)), fun("f", a, none), vec(fun("g", fun("f"))), vec(many(65, a)...), fun("f", many(17, a)...),
		{Kind: api.KInt, S: "a"}, {Kind: api.KVar, L: []api.Term{a}}, {Kind: api.KVec, N: 1}, broad(api.MaxNodes + 1), chain(api.MaxDeep+1, a),
	}
}

// badStores are no stores; each has three variables or more.
func badStores() map[string]api.Store {
	return map[string]api.Store{
		"too many":            unbound(api.MaxVar + 1),
		"greater":             {B: []api.Term{y, none, none}},
		"itself":              {B: []api.Term{none, y, none}},
		"no such variable":    {B: []api.Term{none, fun("f", variable(3)), none}},
		"circle":              {B: []api.Term{fun("f", y), fun("g", x), none}},
		"no term":             {B: []api.Term{none, none, fun("f")}},
		"kind 0 with a field": {B: []api.Term{none, none, {N: 1}}},
	}
}

// equal compares two trees by hand.
func equal(s, t api.Term) bool {
	return s.Kind == t.Kind && s.N == t.N && s.S == t.S && slices.EqualFunc(s.L, t.L, equal)
}

func equalAll(s, t []api.Term) bool { return slices.EqualFunc(s, t, equal) }

func equalPairs(p, q api.Pair) bool { return equal(p.A, q.A) && equal(p.B, q.B) }

func want[T comparable](t *testing.T, name string, got, wanted T) {
	t.Helper()
	if got != wanted {
		t.Errorf("%s: got %v, want %v", brief(name), got, wanted)
	}
}

// brief cuts a long text.
func brief(s string) string { return s[:min(len(s), 300)] }

// reply is what Do returns.
type reply struct {
	api.Deed
	e api.Errno
}

func no() reply                 { return reply{Deed: api.Deed{Answer: api.No}} }
func waits(vars ...int) reply   { return reply{Deed: api.Deed{Answer: api.Waits, Waits: vars}} }
func fails(e api.Errno) reply   { return reply{e: e} }
func yes(l ...api.Pair) reply   { return reply{Deed: api.Deed{Answer: api.Yes, Equal: l}} }
func yesOf(text string) reply   { return yes(pairs(text)...) }
func eq(p, q api.Term) api.Pair { return api.Pair{A: p, B: q} }

func do(s api.Store, t api.Term) reply {
	deed, e := data.Do(s, t)
	return reply{deed, e}
}

func equalReplies(r, q reply) bool {
	return r.Answer == q.Answer && r.e == q.e && slices.Equal(r.Waits, q.Waits) && slices.EqualFunc(r.Equal, q.Equal, equalPairs)
}

func wantReply(t *testing.T, name string, got, wanted reply) {
	t.Helper()
	if !equalReplies(got, wanted) {
		t.Errorf("%s: got %v, want %v", brief(name), got, wanted)
	}
}

// maker makes things by chance.
type maker struct{ *rand.Rand }

// chance is a maker, and how many times tests make something.
func chance(seed int64) (maker, int) { return maker{rand.New(rand.NewSource(seed))}, 3000 }

func pick[T any](r *rand.Rand, l ...T) T { return l[r.Intn(len(l))] }

// term makes a term with variables below n.
func (m maker) term(depth, n int) api.Term {
	if n > 0 && m.Intn(3) == 0 {
		return variable(m.Intn(n))
	}
	if depth == 0 || m.Intn(3) == 0 {
		return pick(m.Rand, integer(m.Intn(6)-2), a, b, atom(api.Nil), m.str(), vec())
	}
	one, two := m.term(depth-1, n), m.term(depth-1, n)
	return pick(m.Rand, fun("f", one), fun("f", one, two), fun(api.Cell, one, two), vec(one), vec(one, two), vec(two, one, one))
}

// str makes a short string, or one of nearly the greatest size.
func (m maker) str() api.Term {
	size := m.Intn(4)
	if m.Intn(8) == 0 {
		size = api.MaxStr - m.Intn(3)
	}
	out := make([]byte, size)
	for i := range out {
		out[i] = byte(m.Intn(256))
	}
	return str(string(out))
}

// store makes a store of n variables.
func (m maker) store(n int) api.Store {
	for {
		s := unbound(n)
		for v := range s.B {
			switch m.Intn(6) {
			case 0:
				s.B[v] = m.term(2, n)
			case 1:
				s.B[v] = pick(m.Rand, m.str(), integer(m.Intn(4)))
			case 2:
				s.B[v] = variable(m.Intn(v + 1))
			case 3:
				s.B[v] = vec(m.term(1, n), m.term(1, n))
			}
		}
		if unify.Check(s) == api.OK {
			return s
		}
	}
}

// more makes a store that implies another one.
func (m maker) more(s api.Store) api.Store {
	for range 1 + m.Intn(3) {
		n := len(s.B)
		t := pick(m.Rand, m.term(2, n), integer(m.Intn(3)), m.str(), vec(m.term(0, n)))
		if out, is, e := unify.Unify(s, variable(m.Intn(n)), t); is && e == api.OK {
			s = out
		}
	}
	return s
}

// input makes an argument for an input: of the kind, or a variable, or something else.
func (m maker) input(kind, n int) api.Term {
	switch {
	case n > 0 && m.Intn(2) == 0:
		return variable(m.Intn(n))
	case m.Intn(12) == 0:
		return m.term(1, n)
	case kind == api.KStr:
		return m.str()
	case kind == api.KInt:
		return integer(pick(m.Rand, 0, 0, 1, 1, 2, m.Intn(5)-1, m.Intn(260)-2, api.MaxInt, -api.MaxInt))
	}
	out := vec()
	for range m.Intn(4) {
		out.L = append(out.L, m.term(1, n))
	}
	return out
}

// operation makes an operation whose variables are below n.
func (m maker) operation(n int) api.Term {
	r := pick(m.Rand, rows...)
	out := fun(r.name)
	for i := range r.args {
		if i < len(r.inputs) {
			out.L = append(out.L, m.input(r.kind(i), n))
		} else {
			out.L = append(out.L, m.term(1, n))
		}
	}
	return out
}
