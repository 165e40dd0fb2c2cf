package guard_test

import (
	"fmt"
	"math/rand"
	"slices"
	"testing"

	"riparian/api"
	"riparian/guard"
	"riparian/term"
	"riparian/unify"
)

// tally counts the answers that a test has seen, so that none passes because it has seen too few.
type tally map[string]int

// note notes an answer.
func (l tally) note(name string, r reply) {
	l[fmt.Sprint(name, " ", map[int]string{api.Yes: "Yes", api.No: "No", api.Waits: "Waits"}[r.is])]++
}

// enough wants that each of some answers was seen often.
func (l tally) enough(t *testing.T, least int, names ...string) {
	t.Helper()
	for _, name := range names {
		for _, is := range []string{" Yes", " No", " Waits"} {
			if l[name+is] < least {
				t.Errorf("%s was seen %d times", name+is, l[name+is])
			}
		}
	}
}

// chance is a maker, and how many times the tests below make something.
func chance(seed int64) (maker, int) { return maker{rand.New(rand.NewSource(seed))}, 2500 }

// TestP5_1_Model compares Number with the chapter's words, on what is made by chance.
func TestP5_1_Model(t *testing.T) {
	m, times := chance(51)
	seen := tally{}
	for range times {
		s := m.store(m.Intn(6))
		e := pick(m.Rand, m.expr(3, len(s.B)), m.term(2, len(s.B)))
		got := numberIn(s, e)
		wantReply(t, fmt.Sprint("Number of ", e, " in ", s), got, numberOf(s, e))
		seen.note("Number", got)
	}
	seen.enough(t, 150, "Number")
}

// TestP5_2_Model: likewise Test and All.
func TestP5_2_Model(t *testing.T) {
	m, times := chance(52)
	seen := tally{}
	for range times {
		s := m.store(m.Intn(6))
		one, two := m.test(len(s.B)), m.test(len(s.B))
		got := test(s, one)
		wantReply(t, fmt.Sprint("Test of ", one, " in ", s), got, testOf(s, one))
		seen.note("Test", got)
		got = all(s, one, two)
		wantReply(t, fmt.Sprint("All of ", one, two, " in ", s), got, together(testOf(s, one), testOf(s, two)))
		seen.note("All", got)
	}
	seen.enough(t, 150, "Test", "All")
}

// TestP5_3_Model: likewise Match and Take.
func TestP5_3_Model(t *testing.T) {
	m, times := chance(53)
	seen := tally{}
	for range times {
		s := m.store(m.Intn(6))
		patterns, args := m.arguments(s, 4)
		got := match(s, patterns, args)
		wanted, _ := matchOf(s, patterns, args)
		wantReply(t, fmt.Sprint("Match of ", patterns, args, " in ", s), got, wanted)
		seen.note("Match", got)
		c := m.clause(s, args)
		got = take(s, args, c)
		wantReply(t, fmt.Sprint("Take of ", args, c, " in ", s), got, takeOf(s, args, c))
		seen.note("Take", got)
	}
	seen.enough(t, 150, "Match", "Take")
}

// TestP5_4_Model: likewise Answers and Open.
func TestP5_4_Model(t *testing.T) {
	m, times := chance(54)
	seen := tally{}
	for range times {
		s := m.store(m.Intn(6))
		_, args := m.arguments(s, 3)
		p := m.proc(s, args)
		var each []int
		for _, r := range answersOf(s, args, p) {
			each = append(each, r.is)
		}
		wantReply(t, fmt.Sprint("Answers of ", args, p, " in ", s), answers(s, args, p), reply{list: each})
		got := open(s, args, p)
		wantReply(t, fmt.Sprint("Open of ", args, p, " in ", s), got, openOf(s, args, p))
		seen.note("Open", got)
	}
	seen.enough(t, 150, "Open")
}

// wantStays wants that an answer stays what it was, but for Waits.
func wantStays(t *testing.T, name string, before, behind reply) {
	t.Helper()
	if before.is != api.Waits && (before.is != behind.is || before.n != behind.n) {
		t.Errorf("%s: %v, and then %v", brief(name), before, behind)
	}
}

// wantSame wants that what is bound is the same in a store.
func wantSame(t *testing.T, name string, s api.Store, before, behind []api.Term) {
	t.Helper()
	want(t, name+": how many", len(behind), len(before))
	for i, x := range before {
		if x.Kind == 0 {
			want(t, name+": unbound", behind[i].Kind, 0)
		} else if same, e := unify.Same(s, x, behind[i]); !same || e != api.OK {
			t.Errorf("%s: %v, and then %v", brief(name), x, behind[i])
		}
	}
}

// TestP5_5_Monotone: what is answered stays so in stores that know more.
func TestP5_5_Monotone(t *testing.T) {
	m, times := chance(55)
	seen := tally{}
	for range times {
		s := m.store(1 + m.Intn(5))
		n := len(s.B)
		u := m.more(s)
		name := fmt.Sprint(s, " and then ", u)
		e, one := m.expr(2, n), m.test(n)
		wantStays(t, fmt.Sprint("Number of ", e, name), numberIn(s, e), numberIn(u, e))
		wantStays(t, fmt.Sprint("Test of ", one, name), test(s, one), test(u, one))
		patterns, args := m.arguments(s, 3)
		before, behind := match(s, patterns, args), match(u, patterns, args)
		wantStays(t, fmt.Sprint("Match of ", patterns, args, name), before, behind)
		if before.is == api.Yes {
			wantSame(t, fmt.Sprint("Match of ", patterns, args, name), u, before.binds, behind.binds)
		}
		seen.note("Match", before)
		p := m.proc(s, args)
		for _, c := range p.Clauses {
			before, behind := take(s, args, c), take(u, args, c)
			wantStays(t, fmt.Sprint("Take of ", args, c, name), before, behind)
			if before.is == api.Yes {
				wantSame(t, fmt.Sprint("Take of ", args, c, name), u, before.binds, behind.binds)
			}
			seen.note("Take", before)
		}
		before, behind = open(s, args, p), open(u, args, p)
		wantStays(t, fmt.Sprint("Open of ", args, p, name), before, behind)
		for _, i := range before.list {
			want(t, fmt.Sprint("Open of ", args, p, name), slices.Contains(behind.list, i), true)
		}
		seen.note("Open", before)
	}
	seen.enough(t, 150, "Match", "Take", "Open")
}

// wantWaits wants that what waits does so for unbound variables of terms, and still in a store that binds none of them.
func wantWaits(t *testing.T, m maker, s api.Store, asked []api.Term, call func(s api.Store) reply) {
	t.Helper()
	before := call(s)
	if before.is != api.Waits {
		want(t, "variables", len(before.waits), 0)
		return
	}
	var free []int
	for _, x := range asked {
		l, _ := unify.Free(s, x)
		free = append(free, l...)
	}
	for _, v := range before.waits {
		want(t, "a variable of what was asked", slices.Contains(free, v), true)
	}
	if len(before.waits) == 0 || !slices.IsSorted(before.waits) || len(slices.Compact(slices.Clone(before.waits))) < len(before.waits) {
		t.Errorf("waits for %v", before.waits)
	}
	u := m.more(s)
	if slices.ContainsFunc(before.waits, func(v int) bool { return u.B[v].Kind != 0 }) {
		return
	}
	if behind := call(u); behind.is != api.Waits {
		t.Errorf("%v waits for %v, but in %v there is %v", asked, before.waits, u, behind)
	}
}

// TestP5_6_Waits: what waits, waits as long as none of the variables is bound.
func TestP5_6_Waits(t *testing.T) {
	m, times := chance(56)
	for range times {
		s := m.store(1 + m.Intn(6))
		n := len(s.B)
		e, one, two := m.expr(2, n), m.test(n), m.test(n)
		wantWaits(t, m, s, []api.Term{e}, func(s api.Store) reply { return numberIn(s, e) })
		wantWaits(t, m, s, []api.Term{one, two}, func(s api.Store) reply { return all(s, one, two) })
		patterns, args := m.arguments(s, 3)
		wantWaits(t, m, s, args, func(s api.Store) reply { return match(s, patterns, args) })
		p := m.proc(s, args)
		for _, c := range p.Clauses {
			wantWaits(t, m, s, args, func(s api.Store) reply { return take(s, args, c) })
		}
		wantWaits(t, m, s, args, func(s api.Store) reply { return open(s, args, p) })
	}
}

// TestP5_7_Instances: arguments that match are instances of the patterns.
func TestP5_7_Instances(t *testing.T) {
	m, times := chance(57)
	seen := tally{}
	for range times {
		s := m.store(m.Intn(6))
		patterns, args := m.arguments(s, 4)
		got := match(s, patterns, args)
		seen.note("Match", got)
		if got.is != api.Yes {
			continue
		}
		for i, p := range patterns {
			made, e := term.Subst(p, got.binds)
			if same, f := unify.Same(s, made, args[i]); !same || e != api.OK || f != api.OK {
				t.Errorf("%v in %v: %v becomes %v", args, s, patterns, made)
			}
		}
		used, _ := term.Vars(patterns)
		for v, x := range got.binds {
			want(t, "bound", x.Kind != 0, slices.Contains(used, v))
		}
		want(t, "no variable behind", len(got.binds), count(patterns))
	}
	seen.enough(t, 150, "Match")
}

// TestP5_8_Never: patterns that do not match do not unify.
func TestP5_8_Never(t *testing.T) {
	m, times := chance(58)
	seen := tally{}
	for range times {
		s := m.store(m.Intn(6))
		patterns, args := m.arguments(s, 4)
		got := match(s, patterns, args)
		more, _ := unify.More(s, count(patterns))
		own, _ := term.Shift(vec(patterns...), len(s.B))
		_, can, e := unify.Unify(more, own, vec(args...))
		if got.is == api.No && (can || e != api.OK) {
			t.Errorf("%v and %v in %v can be the same", patterns, args, s)
		}
		if got.is == api.Yes && !can {
			t.Errorf("%v and %v in %v cannot be the same", patterns, args, s)
		}
		seen.note("Match", got)
	}
	seen.enough(t, 150, "Match")
}

// times counts how often each variable occurs in terms.
func times(l []api.Term) map[int]int {
	out := map[int]int{}
	for _, x := range l {
		if x.Kind == api.KVar {
			out[x.N]++
		}
		for v, n := range times(x.L) {
			out[v] += n
		}
	}
	return out
}

// TestP5_9_Order: patterns, and tests, in another order.
func TestP5_9_Order(t *testing.T) {
	m, many := chance(59)
	seen := tally{}
	for range many {
		s := m.store(m.Intn(6))
		var tests []api.Term
		for range m.Intn(4) {
			tests = append(tests, m.test(len(s.B)))
		}
		before := all(s, tests...)
		m.Shuffle(len(tests), func(i, j int) { tests[i], tests[j] = tests[j], tests[i] })
		wantReply(t, fmt.Sprint("All of ", tests, " in ", s), all(s, tests...), before)
		patterns, args := m.arguments(s, 4)
		if slices.ContainsFunc(values(times(patterns)), func(n int) bool { return n > 2 }) {
			continue
		}
		before = match(s, patterns, args)
		seen.note("Match", before)
		m.Shuffle(len(args), func(i, j int) {
			patterns[i], patterns[j] = patterns[j], patterns[i]
			args[i], args[j] = args[j], args[i]
		})
		behind := match(s, patterns, args)
		name := fmt.Sprint("Match of ", patterns, args, " in ", s)
		wantSame(t, name, s, before.binds, behind.binds)
		before.binds, behind.binds = nil, nil
		wantReply(t, name, behind, before)
	}
	seen.enough(t, 150, "Match")
}

// values are those of a map.
func values(m map[int]int) []int {
	var out []int
	for _, n := range m {
		out = append(out, n)
	}
	return out
}

// TestP5_10_Opposites: of a test and its opposite.
func TestP5_10_Opposites(t *testing.T) {
	m, times := chance(510)
	seen := tally{}
	for range times {
		s := m.store(m.Intn(6))
		one := m.test(len(s.B))
		other, is, e := guard.Opposite(one)
		if e != api.OK {
			t.Fatalf("Opposite of %v: error %d", one, e)
		}
		want(t, fmt.Sprint("whether there is one of ", one), is, len(one.L) == 2)
		if !is {
			continue
		}
		back, is, e := guard.Opposite(other)
		if !is || e != api.OK || !equal(back, one) {
			t.Errorf("%v: its opposite is %v, and of that %v", one, other, back)
		}
		got, opposed := test(s, one), test(s, other)
		seen.note("Test", got)
		if got.is == api.No && opposed.is == api.No {
			p, q := numberIn(s, one.L[0]), numberIn(s, one.L[1])
			want(t, fmt.Sprint(one, " and its opposite"), !slices.Contains([]string{"==", "\\=="}, one.S) && (p.is == api.No || q.is == api.No), true)
			seen.note("neither", got)
			continue
		}
		wanted := got
		wanted.is = map[int]int{api.Yes: api.No, api.No: api.Yes, api.Waits: api.Waits}[got.is]
		wantReply(t, fmt.Sprint("Test of ", other, " in ", s), opposed, wanted)
	}
	seen.enough(t, 150, "Test")
	want(t, "both No", seen["neither No"] > 100, true)
}

// TestP5_11_Numbers: what holds of numbers.
func TestP5_11_Numbers(t *testing.T) {
	m, times := chance(511)
	small := 0
	for range times {
		s := m.store(m.Intn(6))
		p, q := m.expr(2, len(s.B)), m.expr(2, len(s.B))
		name := fmt.Sprint(p, " and ", q, " in ", s)
		for _, op := range []string{"+", "*"} {
			wantReply(t, op+" of "+name, numberIn(s, fun(op, p, q)), numberIn(s, fun(op, q, p)))
		}
		one, two := numberIn(s, p), numberIn(s, q)
		if one.is != api.Yes || two.is != api.Yes {
			continue
		}
		if two.n != 0 {
			small++
			wantReply(t, "the parts of "+name, numberIn(s, fun("+", fun("*", q, fun("/", p, q)), fun("mod", p, q))), one)
		}
		is := map[string]bool{}
		for _, op := range []string{"<", "=:=", ">", "=<", "=\\=", ">="} {
			is[op] = test(s, fun(op, p, q)).is == api.Yes
			turned := map[string]string{"<": ">", ">": "<", "=<": ">=", ">=": "=<"}[op]
			if turned == "" {
				turned = op
			}
			wantReply(t, op+" of "+name, test(s, fun(op, p, q)), test(s, fun(turned, q, p)))
		}
		just := slices.DeleteFunc([]bool{is["<"], is["=:="], is[">"]}, func(is bool) bool { return !is })
		want(t, "just one of "+name, len(just), 1)
		want(t, "=< of "+name, is["=<"], is["<"] || is["=:="])
		want(t, ">= of "+name, is[">="], is[">"] || is["=:="])
		want(t, "=\\= of "+name, is["=\\="], !is["=:="])
	}
	want(t, "divisions", small > 250, true)
}

// renamed is a pattern with its variables numbered otherwise.
func renamed(t api.Term, names []int) api.Term {
	if t.Kind == api.KVar {
		return variable(names[t.N])
	}
	l := t.L
	t.L = nil
	for _, x := range l {
		t.L = append(t.L, renamed(x, names))
	}
	return t
}

// TestP5_12_Names: variables of patterns that are numbered otherwise.
func TestP5_12_Names(t *testing.T) {
	m, times := chance(512)
	seen := tally{}
	for range times {
		s := m.store(m.Intn(6))
		patterns, args := m.arguments(s, 4)
		names := m.Perm(api.MaxOwn)
		var others []api.Term
		for _, p := range patterns {
			others = append(others, renamed(p, names))
		}
		got, other := match(s, patterns, args), match(s, others, args)
		seen.note("Match", got)
		wanted := got
		wanted.binds = nil
		if got.is == api.Yes {
			wanted.binds = make([]api.Term, count(others))
		}
		for v, x := range got.binds {
			if x.Kind != 0 {
				wanted.binds[names[v]] = x
			}
		}
		wantReply(t, fmt.Sprint("Match of ", others, args, " in ", s), other, wanted)
	}
	seen.enough(t, 150, "Match")
}

// ahead is a store, or terms, with n unbound variables ahead.
func ahead(n int, l []api.Term) []api.Term {
	var out []api.Term
	for _, x := range l {
		if x.Kind == api.KVar {
			x.N += n
		}
		x.L = ahead(n, x.L)
		out = append(out, x)
	}
	return out
}

// TestP5_12_Ahead: a store with more variables ahead.
func TestP5_12_Ahead(t *testing.T) {
	m, times := chance(513)
	for range times {
		s, n := m.store(m.Intn(6)), 1+m.Intn(70)
		u := api.Store{B: append(make([]api.Term, n), ahead(n, s.B)...)}
		_, args := m.arguments(s, 3)
		p := m.proc(s, args)
		e, one := m.expr(2, len(s.B)), m.test(len(s.B))
		shifted := ahead(n, args)
		for name, l := range map[string][2]reply{
			"Number": {numberIn(s, e), numberIn(u, ahead(n, []api.Term{e})[0])},
			"Test":   {test(s, one), test(u, ahead(n, []api.Term{one})[0])},
			"Open":   {open(s, args, p), open(u, shifted, p)},
		} {
			wantReply(t, fmt.Sprint(name, " of ", e, one, args, " in ", s), l[1], moved(n, l[0]))
		}
		for _, c := range p.Clauses {
			wantReply(t, fmt.Sprint("Take of ", args, c, " in ", s), take(u, shifted, c), moved(n, take(s, args, c)))
			wantReply(t, fmt.Sprint("Match of ", args, c, " in ", s), match(u, c.Head, shifted), moved(n, match(s, c.Head, args)))
		}
	}
}

// moved is a reply with all variables n greater.
func moved(n int, r reply) reply {
	r.binds, r.waits = ahead(n, r.binds), slices.Clone(r.waits)
	for i := range r.waits {
		r.waits[i] += n
	}
	return r
}

// TestP5_13_Segments: which clauses are behind others, and procedures of one segment.
func TestP5_13_Segments(t *testing.T) {
	m, times := chance(514)
	seen := tally{}
	for range times {
		s := m.store(m.Intn(6))
		_, args := m.arguments(s, 2)
		p := m.proc(s, args)
		got, each, at := open(s, args, p), answers(s, args, p).list, segments(p)
		for _, i := range got.list {
			for j, is := range each[:i] {
				want(t, fmt.Sprint("Open of ", args, p, " in ", s), at[j] == at[i] || is == api.No, true)
			}
			want(t, "can be taken", each[i], api.Yes)
		}
		for i := range p.Clauses {
			p.Clauses[i].Mark = pick(m.Rand, api.MarkNone, api.MarkLate)
		}
		got, each = open(s, args, p), answers(s, args, p).list
		seen.note("Open", got)
		order := m.Perm(len(p.Clauses))
		other := proc(p.Arity)
		for _, i := range order {
			other.Clauses = append(other.Clauses, p.Clauses[i])
		}
		behind, eachBehind := open(s, args, other), answers(s, args, other).list
		var list []int
		for i, from := range order {
			want(t, "the answer of a clause", eachBehind[i], each[from])
			if slices.Contains(got.list, from) {
				list = append(list, i)
			}
		}
		wanted := got
		wanted.list = list
		wantReply(t, fmt.Sprint("Open of ", args, other, " in ", s), behind, wanted)
	}
	seen.enough(t, 100, "Open")
}

// TestP5_14_Bound: where all variables are bound nothing waits.
func TestP5_14_Bound(t *testing.T) {
	m, times := chance(515)
	for range times {
		s := m.bound(m.store(m.Intn(6)))
		e, one := m.expr(2, len(s.B)), m.test(len(s.B))
		patterns, args := m.arguments(s, 4)
		p := m.proc(s, args)
		for name, r := range map[string]reply{"Number": numberIn(s, e), "Test": test(s, one), "Match": match(s, patterns, args), "Open": open(s, args, p)} {
			if r.e != api.OK || r.is != api.Yes && r.is != api.No || len(r.waits) > 0 {
				t.Errorf("%s of %v, %v, %v for %v in %v: %v", name, e, one, patterns, args, s, r)
			}
		}
		for _, is := range answers(s, args, p).list {
			want(t, "an answer", is == api.Yes || is == api.No, true)
		}
	}
}
