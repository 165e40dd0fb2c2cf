package term_test

import (
	"testing"

	"riparian/api"
	"riparian/term"
)

// memory is where lists of terms were seen to lie.
type memory map[*api.Term]bool

// claim notes the lists within some terms; it reports whether none of them lies where another one does.
func (m memory) claim(l []api.Term) bool {
	if len(l) == 0 {
		return true
	}
	if m[&l[0]] {
		return false
	}
	m[&l[0]] = true
	for _, t := range l {
		if !m.claim(t.L) {
			return false
		}
	}
	return true
}

// results are what all functions that return terms make of one argument, in which a list lies at several places.
func results(s api.Term) map[string][]api.Term {
	both := []api.Term{s, s}
	out := map[string][]api.Term{}
	one := func(name string, t api.Term, e api.Errno) { out[name] = []api.Term{t} }
	at, e := term.At(s, []int{1})
	one("At", at, e)
	putIn, e := term.Put(s, []int{0}, s)
	one("Put", putIn, e)
	putAt, e := term.Put(s, nil, s)
	one("Put of all", putAt, e)
	substituted, e := term.Subst(s, both)
	one("Subst", substituted, e)
	shifted, e := term.Shift(s, 1)
	one("Shift", shifted, e)
	least, e := term.General(s, s)
	one("General", least, e)
	joined, e := term.List(both, s)
	one("List", joined, e)
	out["Compose"], _ = term.Compose(both, both)
	out["Compose with none"], _ = term.Compose(both, nil)
	out["Compose of none"], _ = term.Compose(nil, both)
	out["Normal"], _, _ = term.Normal(both)
	out["Match"], _, _ = term.Match(vec(x, y), vec(s, s))
	items, tail, _ := term.Items(fun(".", s, fun(".", s, s)))
	out["Items"] = append(items, tail)
	return out
}

// TestR2_Memory: what is returned is new memory, and no two lists of a result share any; arguments stay what they are.
func TestR2_Memory(t *testing.T) {
	shared := fun("g", x, vec(a))
	s := fun("f", y, shared, shared, vec(shared, z))
	before := put(s, nil)
	for name, l := range results(s) {
		seen := memory{}
		seen.claim([]api.Term{fun("f", y, shared, vec(a))})
		seen[&s.L[0]], seen[&shared.L[0]], seen[&shared.L[1].L[0]] = true, true, true
		if len(l) == 0 || !seen.claim(l) {
			t.Errorf("%s returns %d terms, and memory that is another one's", name, len(l))
		}
	}
	if !equal(s, before) {
		t.Error("an argument was changed")
	}
}

// TestR2_Places: places that are returned share no memory.
func TestR2_Places(t *testing.T) {
	l, _ := term.Paths(fun("f", fun("g", a, b), c))
	for i := range l {
		for j := range l[i] {
			l[i][j] = 10*i + j
		}
		_ = append(l[i], 99)
	}
	for i, place := range l {
		for j, n := range place {
			want(t, "index", n, 10*i+j)
		}
	}
}

// TestR1_Huge: calls end and do not panic where trees are far too deep, or too wide, for terms.
func TestR1_Huge(t *testing.T) {
	for name, s := range map[string]api.Term{"deep": chain(65536, a), "wide": {Kind: api.KVec, L: make([]api.Term, 1000000)}} {
		want(t, name, term.Check(s), api.ErrTerm)
		want(t, name, term.CheckAll([]api.Term{s}), api.ErrTerm)
		_, e := term.Compare(s, s)
		want(t, name, e, api.ErrTerm)
		_, e = term.Subst(x, []api.Term{s})
		want(t, name, e, api.ErrArg)
		_, _, e = term.Items(s)
		want(t, name, e, api.ErrTerm)
	}
	_, e := term.At(a, make([]int, 1000000))
	want(t, "a long place", e, api.ErrPath)
}
