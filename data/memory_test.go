package data_test

import (
	"math"
	"strings"
	"testing"

	"riparian/api"
	"riparian/data"
)

// memory is where lists were seen to lie.
type memory map[any]bool

// claim notes where a list lies; it reports whether no other one lies there.
func claim[T any](m memory, l []T) bool {
	if cap(l) == 0 {
		return true
	}
	at := &l[:1][0]
	is := !m[at]
	m[at] = true
	return is
}

// terms notes lists of terms, and those within them.
func (m memory) terms(l []api.Term) bool {
	is := claim(m, l)
	for _, t := range l {
		is = m.terms(t.L) && is
	}
	return is
}

// equations notes equations, and the lists of their sides.
func (m memory) equations(l []api.Pair) bool {
	is := claim(m, l)
	for _, p := range l {
		is = m.terms([]api.Term{p.A, p.B}) && is
	}
	return is
}

// TestR2_Memory: what is returned is new memory, and no two lists of a result share any.
func TestR2_Memory(t *testing.T) {
	shared := vec(fun("f", x), fun("g", y))
	s := unbound(4)
	s.B[2] = shared
	first := memory{}
	first.terms(s.B)
	out := fun("h", shared, x)
	first.terms([]api.Term{out})
	for _, u := range []api.Term{
		fun("vector_get", shared, integer(0), out, out), fun("vector_get", z, integer(1), out, out), fun("vector_get", z, integer(1), shared, shared),
		fun("vector_set", shared, integer(0), shared, out), fun("vector_set", z, integer(1), shared, out), fun("vector_set", z, integer(1), shared, shared),
		fun("vector_size", shared, out, out), fun("vector_size", z, out, out), fun("vector_new", integer(2), out), fun("string_size", str("a"), out, out),
	} {
		claim(first, u.L)
		for range 2 {
			got := do(s, u)
			want(t, u.S, got.Answer, api.Yes)
			want(t, u.S, first.equations(got.Equal), true)
		}
	}
	wantReply(t, "what was given is not changed", do(s, fun("vector_get", z, integer(1), out, x)), yes(eq(fun("h", vec(fun("f", x), fun("g", y)), x), fun("g", y)), eq(x, vec(fun("f", x), fun("g", y)))))
	waiting := do(s, fun("vector_get", x, y, x, x)).Waits
	waiting[0] = 7
	wantReply(t, "Waits", do(s, fun("vector_get", x, y, x, x)), waits(0, 1))
	names := data.Names()
	names[0] = "a"
	want(t, "Names", data.Names()[0], "string_get")
	inputs, _ := data.Inputs(fun("vector_get", x, x, x, x))
	inputs[0] = 7
	inputs, _ = data.Inputs(fun("vector_get", x, x, x, x))
	want(t, "Inputs", inputs[0], 0)
}

// TestR2_Pool: a pool keeps no memory of arguments, and gives none of its own away.
func TestR2_Pool(t *testing.T) {
	p := data.NewPool()
	inner := []api.Term{a}
	l := []api.Term{fun("f", inner...), vec(inner...)}
	v := made(t, p, l...)
	given := fun("g", inner...)
	u := set(t, p, v, 0, given)
	inner[0], l[0], l[1], given.L[0] = b, b, b, b
	check := func(name string) {
		t.Helper()
		for range 2 {
			wantSeen(t, name, p, v, []api.Term{fun("f", a), vec(a)}, u, p.Cost())
			wantSeen(t, name, p, u, []api.Term{fun("g", a), vec(a)}, u, p.Cost())
		}
	}
	check("arguments")
	for _, w := range []int{v, u, v, u} {
		got, _ := p.Get(w, 0)
		got.L[0] = b
		again, _ := p.Get(u, 1)
		again.L[0] = b
		all, _ := p.Vector(w)
		all[0].L[0], all[1] = b, b
		other, _ := p.Vector(v + u - w)
		other[0].L[0], other[1].L[0] = b, b
		check("results")
	}
}

// roomy is a list with room behind it, in which something stands.
func roomy[T any](l []T, behind T) []T { return append(append([]T{}, l...), behind)[:len(l)] }

// TestR2_Room: what stands behind the lists of arguments is not written to.
func TestR2_Room(t *testing.T) {
	v := vec()
	v.L = roomy([]api.Term{a, x}, b)
	s := api.Store{B: roomy([]api.Term{none, v}, b)}
	u := fun("vector_set")
	u.L = roomy([]api.Term{v, integer(1), c, x}, b)
	wantReply(t, "vector_set", do(s, u), yes(eq(x, vec(a, c))))
	u.L[0] = y
	wantReply(t, "vector_set", do(s, u), yes(eq(x, vec(a, c))))
	p := data.NewPool()
	set(t, p, made(t, p, v.L...), 0, c)
	want(t, "the vector", equalAll(v.L[:3], []api.Term{a, x, b}), true)
	want(t, "the arguments", equalAll(u.L[:5], []api.Term{y, integer(1), c, x, b}), true)
	want(t, "the store", equalAll(s.B[:3], []api.Term{none, vec(a, x), b}), true)
}

// TestR3_Empty: lists that are nil, and lists that are empty.
func TestR3_Empty(t *testing.T) {
	for _, l := range [][]api.Term{nil, {}} {
		v := api.Term{Kind: api.KVec, L: l}
		wantReply(t, "a store", do(api.Store{B: l}, fun("vector_size", v, a, a)), yes(eq(a, integer(0)), eq(a, vec())))
		wantReply(t, "a vector", do(api.Store{B: []api.Term{{L: l}, v}}, fun("vector_size", y, x, v)), yes(eq(x, integer(0)), eq(vec(), vec())))
		wantReply(t, "an unbound variable", do(api.Store{B: []api.Term{{L: l}}}, fun("vector_size", x, x, x)), waits(0))
		wantReply(t, "an index", do(api.Store{}, fun("vector_get", vec(v), api.Term{Kind: api.KInt, L: l}, a, a)), yes(eq(a, vec()), eq(a, vec(vec()))))
		p := data.NewPool()
		wantSeen(t, "a version", p, made(t, p, l...), nil, 0, 0)
		made(t, p, v)
		wantGet(t, "an element", p, 1, 0, vec(), 1)
	}
}

// TestR1_Huge: arguments far beyond the limits are errors, and take no time.
func TestR1_Huge(t *testing.T) {
	deep, wide := chain(1000000, a), vec(make([]api.Term, 1000000)...)
	long := fun(strings.Repeat("a", 1000000), a)
	p := data.NewPool()
	made(t, p, a)
	for _, bad := range []api.Term{deep, wide, long, str(long.S), variable(math.MinInt), variable(math.MaxInt), integer(math.MinInt), integer(math.MaxInt), {Kind: math.MaxInt}} {
		wantReply(t, "a term", do(unbound(2), bad), fails(api.ErrTerm))
		wantReply(t, "an input", do(unbound(2), fun("vector_new", bad, x)), fails(api.ErrTerm))
		wantReply(t, "an output", do(unbound(2), fun("vector_new", x, bad)), fails(api.ErrTerm))
		wantReply(t, "a store", do(api.Store{B: []api.Term{bad}}, a), fails(api.ErrStore))
		want(t, "Is", data.Is(bad), false)
		_, e := p.Set(0, 0, bad)
		want(t, "Set", e, api.ErrTerm)
		_, e = p.Make([]api.Term{bad})
		want(t, "Make", e, api.ErrTerm)
	}
	_, e := p.Make(wide.L)
	want(t, "Make", e, api.ErrArg)
	wantReply(t, "a large store", do(api.Store{B: wide.L}, a), fails(api.ErrStore))
	want(t, "Cost", p.Cost(), 1)
}
