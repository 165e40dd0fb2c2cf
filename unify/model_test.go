package unify_test

import (
	"math/rand"
	"slices"
	"testing"

	"riparian/api"
	"riparian/unify"
)

// model does what the chapter says, word by word: whole values are built, and looked through at each binding.
type model struct {
	b     []api.Term
	pairs int
	limit bool
	bound []int
}

// isBinding reports whether a tree can be that of v among n variables, by the chapter's words; terms are taken for granted.
func isBinding(t api.Term, v, n int) bool {
	if t.Kind == api.KVar && (t.N >= v || t.N < 0) {
		return false
	}
	for _, u := range varsOf(t) {
		if u < 0 || u >= n {
			return false
		}
	}
	return true
}

// isValid reports whether a store whose trees are terms is valid: dependence is followed until nothing is added.
func isValid(s api.Store) bool {
	depends := make([][]bool, len(s.B))
	for v, t := range s.B {
		if !isBinding(t, v, len(s.B)) {
			return false
		}
		depends[v] = make([]bool, len(s.B))
		for _, u := range varsOf(t) {
			depends[v][u] = true
		}
	}
	for u := range s.B {
		for v := range s.B {
			for w := range s.B {
				depends[v][w] = depends[v][w] || depends[v][u] && depends[u][w]
			}
		}
	}
	for v := range s.B {
		if depends[v][v] {
			return false
		}
	}
	return true
}

// varsOf returns the variables of a tree, as often as they occur.
func varsOf(t api.Term) []int {
	var out []int
	if t.Kind == api.KVar {
		out = append(out, t.N)
	}
	for _, e := range t.L {
		out = append(out, varsOf(e)...)
	}
	return out
}

// once returns what remains where each number is kept the first time.
func once(l []int) []int {
	var out []int
	for _, n := range l {
		if !slices.Contains(out, n) {
			out = append(out, n)
		}
	}
	return out
}

func (m *model) value(t api.Term) api.Term {
	for t.Kind == api.KVar && m.b[t.N].Kind != 0 {
		t = m.b[t.N]
	}
	return t
}

func (m *model) whole(t api.Term) api.Term {
	t = m.value(t)
	out := t
	out.L = nil
	for _, e := range t.L {
		out.L = append(out.L, m.whole(e))
	}
	return out
}

// unify unifies, or compares; it reports whether it succeeds. With limit nothing that it reports counts.
func (m *model) unify(s, t api.Term, binds bool) bool {
	m.pairs++
	if m.pairs > api.MaxWork {
		m.limit = true
		return false
	}
	if s.Kind == api.KVar && equal(s, t) {
		return true
	}
	s, t = m.value(s), m.value(t)
	if s.Kind == api.KVar && equal(s, t) {
		return true
	}
	if s.Kind == api.KVar || t.Kind == api.KVar {
		return binds && m.bind(s, t)
	}
	if s.Kind != t.Kind || s.N != t.N || s.S != t.S || len(s.L) != len(t.L) {
		return false
	}
	for i := range s.L {
		if !m.unify(s.L[i], t.L[i], binds) {
			return false
		}
	}
	return true
}

func (m *model) bind(s, t api.Term) bool {
	if s.Kind == api.KVar && t.Kind == api.KVar {
		m.set(max(s.N, t.N), variable(min(s.N, t.N)))
		return true
	}
	if s.Kind != api.KVar {
		s, t = t, s
	}
	if slices.Contains(varsOf(m.whole(t)), s.N) {
		return false
	}
	m.set(s.N, t)
	return true
}

func (m *model) set(v int, t api.Term) {
	m.b[v] = t
	m.bound = append(m.bound, v)
}

// modelUnify returns what Unify has to return; an error, where a limit is reached.
func modelUnify(s api.Store, t, u api.Term) (api.Store, bool, api.Errno) {
	m := model{b: slices.Clone(s.B)}
	is := m.unify(t, u, true)
	if m.limit {
		return api.Store{}, false, api.ErrLimit
	}
	if !is {
		return s, false, api.OK
	}
	return api.Store{B: m.b}, true, api.OK
}

func modelSame(s api.Store, t, u api.Term) (bool, api.Errno) {
	m := model{b: s.B}
	is := m.unify(t, u, false)
	if m.limit {
		return false, api.ErrLimit
	}
	return is, api.OK
}

// modelAsk returns what Ask has to return.
func modelAsk(s api.Store, t, u api.Term) (int, []int, api.Errno) {
	is, e := modelSame(s, t, u)
	if e != api.OK {
		return 0, nil, e
	}
	_, can, e := modelUnify(s, t, u)
	if e != api.OK {
		return 0, nil, e
	}
	if is {
		return api.Yes, nil, api.OK
	}
	if !can {
		return api.No, nil, api.OK
	}
	m := model{b: s.B}
	return api.Waits, once(append(varsOf(m.whole(t)), varsOf(m.whole(u))...)), api.OK
}

// extended returns a store with unbound variables behind, n in all at least.
func extended(s api.Store, n int) api.Store {
	return api.Store{B: append(slices.Clone(s.B), make([]api.Term, max(0, n-len(s.B)))...)}
}

func modelMerge(s, u api.Store) (api.Store, bool, api.Errno) {
	out := extended(s, len(u.B))
	for v, t := range u.B {
		if t.Kind == 0 {
			continue
		}
		next, is, e := modelUnify(out, variable(v), t)
		if e != api.OK || !is {
			return api.Store{}, false, e
		}
		out = next
	}
	return out, true, api.OK
}

func modelImplies(s, u api.Store) bool {
	m := model{b: extended(s, len(u.B)).B}
	for v, t := range u.B {
		if t.Kind != 0 && !equal(m.whole(variable(v)), m.whole(t)) {
			return false
		}
	}
	return true
}

// agreeValues holds what the functions on values return against the model.
func agreeValues(t *testing.T, s api.Store, p, q api.Term) {
	t.Helper()
	m := model{b: s.B}
	value, e := unify.Value(s, p)
	wantTerm(t, "Value", value, e, m.value(p))
	whole, e := unify.Whole(s, p)
	wantTerm(t, "Whole", whole, e, m.whole(p))
	free, e := unify.Free(s, p)
	wantNumbers(t, "Free", free, e, once(varsOf(m.whole(p)))...)
	is, e := unify.Same(s, p, q)
	wanted, f := modelSame(s, p, q)
	if is != wanted || e != f {
		t.Errorf("Same of %v and %v in %v: got %v, error %d", p, q, s.B, is, e)
	}
}

// agreeUnify holds what Unify returns against the model.
func agreeUnify(t *testing.T, s api.Store, p, q api.Term) {
	t.Helper()
	got, is, e := unify.Unify(s, p, q)
	out, wanted, f := modelUnify(s, p, q)
	if !equalStores(got, out) || is != wanted || e != f {
		t.Errorf("Unify of %v and %v in %v: got %v, %v, error %d, want %v, %v", p, q, s.B, got.B, is, e, out.B, wanted)
	}
}

// agreeAsk holds what Ask returns against the model.
func agreeAsk(t *testing.T, s api.Store, p, q api.Term) {
	t.Helper()
	answer, vars, e := unify.Ask(s, p, q)
	should, on, f := modelAsk(s, p, q)
	if answer != should || !slices.Equal(vars, on) || e != f {
		t.Errorf("Ask of %v and %v in %v: got %d %v, error %d, want %d %v", p, q, s.B, answer, vars, e, should, on)
	}
}

// many calls a function with all small stores and terms, and with some by chance that are larger.
func many(call func(s api.Store, p, q api.Term)) {
	for _, s := range small() {
		for _, p := range terms() {
			for _, q := range terms() {
				call(s, p, q)
			}
		}
	}
	r := rand.New(rand.NewSource(32))
	for range 20000 {
		n := 1 + r.Intn(9)
		s := madeStore(r, n)
		call(s, made(r, 4, numbers(n)), made(r, 4, numbers(n)))
		p, q := madePair(r, 4, numbers(n))
		call(s, p, q)
	}
}

// agreeStores holds what the functions on two stores return against the model.
func agreeStores(t *testing.T, s, u api.Store) {
	t.Helper()
	got, is, e := unify.Merge(s, u)
	out, wanted, f := modelMerge(s, u)
	if !equalStores(got, out) || is != wanted || e != f {
		t.Errorf("Merge of %v and %v: got %v, %v, error %d, want %v, %v", s.B, u.B, got.B, is, e, out.B, wanted)
	}
	is, e = unify.Implies(s, u)
	if is != modelImplies(s, u) || e != api.OK {
		t.Errorf("Implies of %v and %v: got %v, error %d", s.B, u.B, is, e)
	}
}

// TestP3_1_Model: of all small stores Check accepts just the valid ones.
func TestP3_1_Model(t *testing.T) {
	count := 0
	for _, s := range threes() {
		wanted := api.ErrStore
		if isValid(s) {
			wanted = api.OK
			count++
		}
		if e := unify.Check(s); e != wanted {
			t.Errorf("Check of %v: error %d, want %d", s.B, e, wanted)
		}
	}
	if count < 200 {
		t.Errorf("%d stores are valid", count)
	}
	r := rand.New(rand.NewSource(31))
	for range 2000 {
		s := unbound(1 + r.Intn(6))
		for v := range s.B {
			if r.Intn(2) == 0 {
				s.B[v] = made(r, 3, numbers(len(s.B)))
			}
		}
		if (unify.Check(s) == api.OK) != isValid(s) {
			t.Errorf("Check of %v: error %d", s.B, unify.Check(s))
		}
	}
}

// TestP3_2_Model: values are as the chapter's words, taken one by one, say.
func TestP3_2_Model(t *testing.T) {
	many(func(s api.Store, p, q api.Term) { agreeValues(t, s, p, q) })
}

// TestP3_3_Model: so is unification.
func TestP3_3_Model(t *testing.T) {
	many(func(s api.Store, p, q api.Term) { agreeUnify(t, s, p, q) })
}

// TestP3_4_AskModel: so are answers.
func TestP3_4_AskModel(t *testing.T) {
	many(func(s api.Store, p, q api.Term) { agreeAsk(t, s, p, q) })
}

// TestP3_4_StoresModel: Merge and Implies of small stores, and of larger ones with more or fewer variables.
func TestP3_4_StoresModel(t *testing.T) {
	stores := small()
	for i, s := range stores {
		for j := i % 7; j < len(stores); j += 7 {
			agreeStores(t, s, stores[j])
		}
	}
	r := rand.New(rand.NewSource(33))
	for range 20000 {
		agreeStores(t, madeStore(r, r.Intn(9)), madeStore(r, r.Intn(9)))
	}
}
