package data_test

import (
	"fmt"
	"slices"
	"testing"

	"riparian/api"
	"riparian/data"
	"riparian/unify"
)

// tally counts what a test has seen, so that none passes because it has seen too little.
type tally map[string]int

// note notes an answer.
func (l tally) note(name string, r reply) {
	answers := map[int]string{0: "error", api.Yes: "Yes", api.No: "No", api.Waits: "Waits"}
	l[fmt.Sprint(name, " ", answers[r.Answer])]++
}

// enough wants that each of some things was seen often.
func (l tally) enough(t *testing.T, least int, names ...string) {
	t.Helper()
	for _, name := range names {
		if l[name] < least {
			t.Errorf("%s was seen %d times", name, l[name])
		}
	}
}

// TestP6_1_Model compares Is and Inputs with the table, on what is made by chance.
func TestP6_1_Model(t *testing.T) {
	m, times := chance(61)
	for range times {
		u := pick(m.Rand, m.operation(3), m.term(2, 3), fun(pick(m.Rand, rows...).name, many(m.Intn(6), x)...))
		r, is := rowOf(u)
		inputs, e := data.Inputs(u)
		want(t, fmt.Sprint("Is of ", u), data.Is(u), is)
		want(t, fmt.Sprint("Inputs of ", u), len(inputs), len(r.inputs))
		want(t, fmt.Sprint("Inputs of ", u), e == api.OK, is)
	}
}

// TestP6_2_Model compares Do with the chapter's words, on what is made by chance.
func TestP6_2_Model(t *testing.T) {
	m, times := chance(62)
	seen := tally{}
	for range 5 * times {
		s := m.store(m.Intn(6))
		u := m.operation(len(s.B) + m.Intn(20)/19)
		if m.Intn(20) == 0 {
			u = m.term(2, len(s.B))
		}
		got := do(s, u)
		wantReply(t, fmt.Sprint(u, " in ", s), got, doOf(s, u))
		seen.note(u.S, got)
		seen.note("", got)
	}
	for _, r := range rows {
		seen.enough(t, 80, r.name+" Yes", r.name+" No", r.name+" Waits")
	}
	seen.enough(t, 300, " error")
}

// TestP6_5_Monotone: an answer stays in stores that imply one, with the same equations; waiting stays as long as nothing that is waited for is bound.
func TestP6_5_Monotone(t *testing.T) {
	m, times := chance(65)
	seen := tally{}
	for range 3 * times {
		s := m.store(1 + m.Intn(5))
		u := m.more(s)
		op := m.operation(len(s.B))
		before, behind := do(s, op), do(u, op)
		name := fmt.Sprint(op, " in ", s, " and then in ", u)
		if before.e != api.OK || behind.e != api.OK {
			t.Errorf("%s: error %d, and then %d", brief(name), before.e, behind.e)
			continue
		}
		if before.Answer == api.Waits && bindsOne(u, before.Waits) {
			seen.note("bound", behind)
			continue
		}
		seen.note("stays", behind)
		want(t, name, behind.Answer, before.Answer)
		want(t, name, slices.Equal(behind.Waits, before.Waits), true)
		want(t, name, len(behind.Equal), len(before.Equal))
		for i, p := range before.Equal {
			wantSame(t, name, u, p.A, behind.Equal[i].A)
			wantSame(t, name, u, p.B, behind.Equal[i].B)
		}
	}
	seen.enough(t, 150, "stays Yes", "stays No", "stays Waits", "bound Yes", "bound No")
	seen.enough(t, 40, "bound Waits")
}

// bindsOne reports whether one of some variables is bound.
func bindsOne(s api.Store, vars []int) bool {
	return slices.ContainsFunc(vars, func(v int) bool { return s.B[v].Kind != 0 })
}

// wantSame wants that two terms have the same whole values in a store.
func wantSame(t *testing.T, name string, s api.Store, one, other api.Term) {
	t.Helper()
	same, e := unify.Same(s, one, other)
	if !same || e != api.OK {
		t.Errorf("%s: %v and %v: %v, error %d", brief(name), one, other, same, e)
	}
}

// runner carries operations out one after the other: their equations are unified.
type runner struct {
	t *testing.T
	s api.Store
}

func newRunner(t *testing.T, s api.Store) *runner { return &runner{t, s} }

// fresh is a new variable.
func (r *runner) fresh() api.Term {
	r.t.Helper()
	var e api.Errno
	r.s, e = unify.More(r.s, 1)
	want(r.t, "More", e, api.OK)
	return variable(len(r.s.B) - 1)
}

// do carries out an operation; it reports whether the answer was Yes, and all that is to be unified was.
func (r *runner) do(name string, args ...api.Term) bool {
	r.t.Helper()
	got := do(r.s, fun(name, args...))
	if got.e != api.OK || got.Answer == api.Waits {
		r.t.Fatalf("%s of %v: %v", name, args, got)
	}
	for _, p := range got.Equal {
		s, is, e := unify.Unify(r.s, p.A, p.B)
		if e != api.OK {
			r.t.Fatalf("%s of %v: error %d", name, args, e)
		}
		if !is {
			return false
		}
		r.s = s
	}
	return got.Answer == api.Yes
}

// out carries out an operation that has outputs behind some arguments, and returns these; the zero Term, if the answer is No.
func (r *runner) out(name string, outputs int, args ...api.Term) []api.Term {
	r.t.Helper()
	var out []api.Term
	for range outputs {
		out = append(out, r.fresh())
	}
	if !r.do(name, slices.Concat(args, out)...) {
		return make([]api.Term, outputs)
	}
	return out
}

// whole is the whole value of a term.
func (r *runner) whole(u api.Term) api.Term {
	r.t.Helper()
	out, e := unify.Whole(r.s, u)
	want(r.t, "Whole", e, api.OK)
	return out
}

// TestP6_6_Vectors: operations one after the other compute what an array computes.
func TestP6_6_Vectors(t *testing.T) {
	m, _ := chance(66)
	for round := range 60 {
		r := newRunner(t, unbound(4))
		size := pick(m.Rand, 0, 1, 2, 3, 7, 64)
		array := many(size, integer(0))
		var v api.Term
		if round%2 == 0 {
			v = r.out("vector_new", 1, integer(size))[0]
		} else {
			for i := range array {
				array[i] = m.term(2, 4)
			}
			v = vec(slices.Clone(array)...)
		}
		for range 60 {
			i := m.Intn(size+2) - 1
			at, inside := integer(i), i >= 0 && i < size
			switch m.Intn(3) {
			case 0:
				out := r.out("vector_get", 2, v, at)
				want(t, "get", out[0].Kind != 0, inside)
				if inside {
					wantSame(t, "get", r.s, out[0], array[i])
					v = out[1]
				}
			case 1:
				x := m.term(2, 4)
				out := r.out("vector_set", 1, v, at, x)
				want(t, "set", out[0].Kind != 0, inside)
				if inside {
					array[i] = x
					v = out[0]
				}
			default:
				out := r.out("vector_size", 2, v)
				wantSame(t, "size", r.s, out[0], integer(size))
				v = out[1]
			}
		}
		wantSame(t, "all", r.s, v, vec(array...))
	}
}

// TestP6_6_Strings: likewise strings.
func TestP6_6_Strings(t *testing.T) {
	m, _ := chance(67)
	for round := range 60 {
		r := newRunner(t, unbound(1))
		array := make([]byte, pick(m.Rand, 0, 1, 2, 3, 7, 254, 255))
		size := len(array)
		var v api.Term
		if round%2 == 0 {
			v = r.out("string_new", 1, integer(size))[0]
		} else {
			for i := range array {
				array[i] = byte(m.Intn(256))
			}
			v = str(string(array))
		}
		for range 60 {
			i := m.Intn(size+2) - 1
			at, inside := integer(i), i >= 0 && i < size
			switch m.Intn(3) {
			case 0:
				out := r.out("string_get", 2, v, at)
				want(t, "get", out[0].Kind != 0, inside)
				if inside {
					wantSame(t, "get", r.s, out[0], integer(int(array[i])))
					v = out[1]
				}
			case 1:
				b := m.Intn(260) - 2
				out := r.out("string_set", 1, v, at, integer(b))
				fits := inside && b >= 0 && b < 256
				want(t, "set", out[0].Kind != 0, fits)
				if fits {
					array[i] = byte(b)
					v = out[0]
				}
			default:
				out := r.out("string_size", 2, v)
				wantSame(t, "size", r.s, out[0], integer(size))
				v = out[1]
			}
		}
		wantSame(t, "all", r.s, v, str(string(array)))
	}
}

// vector makes a vector of a size, whose elements have variables below n; it is bound to a variable, or stands as it is.
func (m maker) vector(r *runner, size, n int) api.Term {
	v := vec()
	for range size {
		v.L = append(v.L, m.term(2, n))
	}
	if m.Intn(2) == 0 {
		return v
	}
	out := r.fresh()
	s, is, e := unify.Unify(r.s, out, v)
	want(r.t, "a new variable is bound", is && e == api.OK, true)
	r.s = s
	return out
}

// wantEquations wants what P6.7 says of get and set, of vectors or of strings: getting behind setting, setting what was there, setting twice, at the same index and at others.
func (r *runner) wantEquations(kind string, v api.Term, i, j int, x, y api.Term) {
	t := r.t
	t.Helper()
	name := fmt.Sprint(v, " in ", r.s, " at ", i, " and ", j, ": ", x, ", ", y)
	set := func(v api.Term, i int, x api.Term) api.Term { return r.out(kind+"_set", 1, v, integer(i), x)[0] }
	get := func(v api.Term, i int) api.Term { return r.out(kind+"_get", 2, v, integer(i))[0] }
	wantSame(t, "what was set: "+name, r.s, get(set(v, i, x), i), x)
	wantSame(t, "what was there: "+name, r.s, set(v, i, get(v, i)), v)
	want(t, "the whole value: "+name, equal(r.whole(set(v, i, get(v, i))), r.whole(v)), true)
	wantSame(t, "the later one: "+name, r.s, set(set(v, i, x), i, y), set(v, i, y))
	if i != j {
		wantSame(t, "another index: "+name, r.s, get(set(v, i, x), j), get(v, j))
		wantSame(t, "exchanged: "+name, r.s, set(set(v, i, x), j, y), set(set(v, j, y), i, x))
	}
}

// TestP6_7_Vectors: get and set of vectors with elements by chance.
func TestP6_7_Vectors(t *testing.T) {
	m, _ := chance(68)
	for range 300 {
		r := newRunner(t, m.store(4))
		size := 1 + m.Intn(5)
		v := m.vector(r, size, 4)
		r.wantEquations("vector", v, m.Intn(size), m.Intn(size), m.term(2, 4), m.term(2, 4))
	}
}

// TestP6_7_Strings: get and set of strings with bytes by chance.
func TestP6_7_Strings(t *testing.T) {
	m, _ := chance(69)
	for range 300 {
		r := newRunner(t, unbound(0))
		v := m.str()
		if size := len(v.S); size > 0 {
			r.wantEquations("string", v, m.Intn(size), m.Intn(size), integer(m.Intn(256)), integer(m.Intn(256)))
		}
	}
}

// sizeOf is the size of a vector, or of a string.
func (r *runner) sizeOf(kind string, v api.Term) int {
	r.t.Helper()
	return r.whole(r.out(kind+"_size", 2, v)[0]).N
}

// TestP6_8_Sizes: get and set keep sizes, and so does size itself.
func TestP6_8_Sizes(t *testing.T) {
	m, _ := chance(70)
	for range 200 {
		r := newRunner(t, m.store(4))
		size := 1 + m.Intn(5)
		v := m.vector(r, size, 4)
		at := integer(m.Intn(size))
		want(t, "size", r.sizeOf("vector", v), size)
		want(t, "behind get", r.sizeOf("vector", r.out("vector_get", 2, v, at)[1]), size)
		want(t, "behind set", r.sizeOf("vector", r.out("vector_set", 1, v, at, m.term(2, 4))[0]), size)
		want(t, "behind size", r.sizeOf("vector", r.out("vector_size", 2, v)[1]), size)
		s := m.str()
		if size = len(s.S); size == 0 {
			continue
		}
		at = integer(m.Intn(size))
		want(t, "size", r.sizeOf("string", s), size)
		want(t, "behind get", r.sizeOf("string", r.out("string_get", 2, s, at)[1]), size)
		want(t, "behind set", r.sizeOf("string", r.out("string_set", 1, s, at, integer(m.Intn(256)))[0]), size)
		want(t, "behind size", r.sizeOf("string", r.out("string_size", 2, s)[1]), size)
	}
	for n := range 65 {
		r := newRunner(t, unbound(0))
		want(t, "a new vector", r.sizeOf("vector", r.out("vector_new", 1, integer(n))[0]), n)
		want(t, "a new string", r.sizeOf("string", r.out("string_new", 1, integer(4*n-n/64))[0]), 4*n-n/64)
	}
}

// TestP6_8_Joins: sizes add up; joining is associative, and the string of no bytes is neutral.
func TestP6_8_Joins(t *testing.T) {
	m, _ := chance(71)
	seen := tally{}
	for range 500 {
		r := newRunner(t, unbound(0))
		one, two, three := m.str(), m.str(), m.str()
		join := func(a, b api.Term) api.Term {
			if a.Kind == 0 || b.Kind == 0 {
				return none
			}
			return r.out("string_join", 1, a, b)[0]
		}
		both, left, right := join(one, two), join(join(one, two), three), join(one, join(two, three))
		want(t, "both", both.Kind != 0, len(one.S)+len(two.S) <= 255)
		want(t, "all", left.Kind != 0, right.Kind != 0)
		if both.Kind != 0 {
			want(t, "the sum", r.sizeOf("string", both), len(one.S)+len(two.S))
			seen["joined"]++
		}
		if left.Kind != 0 {
			wantSame(t, "associative", r.s, left, right)
			want(t, "the sum of all", r.sizeOf("string", left), len(one.S)+len(two.S)+len(three.S))
		} else {
			seen["too long"]++
		}
		wantSame(t, "neutral", r.s, join(one, str("")), one)
		wantSame(t, "neutral", r.s, join(str(""), one), one)
	}
	seen.enough(t, 50, "joined", "too long")
}
