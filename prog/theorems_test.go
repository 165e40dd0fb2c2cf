package prog_test

import (
	"cmp"
	"math/rand"
	"slices"
	"strings"
	"testing"

	"riparian/api"
	"riparian/prog"
	"riparian/term"
)

// withoutTrue is a program without the goals, and the tests, that are true.
func withoutTrue(p api.Program) api.Program {
	isTrue := func(t api.Term) bool { return equal(t, yes) }
	out := api.Program{Procs: slices.Clone(p.Procs)}
	for i, x := range out.Procs {
		l := slices.Clone(x.Clauses)
		for j, c := range l {
			l[j].Guard, l[j].Body = slices.DeleteFunc(slices.Clone(c.Guard), isTrue), slices.DeleteFunc(slices.Clone(c.Body), isTrue)
		}
		out.Procs[i].Clauses = l
	}
	return out
}

// readBack is Program of Terms, where there is no error.
func readBack(t *testing.T, p api.Program) api.Program {
	t.Helper()
	l, e := prog.Terms(p)
	if e != api.OK {
		t.Fatalf("Terms of %v: error %d", p, e)
	}
	out, at, e := prog.Program(l)
	if e != api.OK {
		t.Fatalf("Program of %v: error %d at %d", l, e, at)
	}
	return out
}

// TestP4_7_ReadBack: what is written is read as what it was, but for true.
func TestP4_7_ReadBack(t *testing.T) {
	for _, p := range programs(false) {
		check(t, p)
		if back := readBack(t, p); !equalPrograms(back, p) {
			t.Errorf("%v is read back as %v", p, back)
		}
	}
	different := 0
	for _, p := range programs(true) {
		check(t, p)
		back := readBack(t, p)
		if !equalPrograms(back, withoutTrue(p)) {
			t.Errorf("%v is read back as %v", p, back)
		}
		check(t, back)
		if again := readBack(t, back); !equalPrograms(again, back) {
			t.Errorf("%v is read back as %v", back, again)
		}
		if !equalPrograms(back, p) {
			different++
		}
	}
	if different < 50 {
		t.Errorf("only %d programs have true", different)
	}
}

// TestP4_5_TermsAsWithoutTrue: a program is written as it is without true.
func TestP4_5_TermsAsWithoutTrue(t *testing.T) {
	for _, p := range programs(true) {
		got, e := prog.Terms(p)
		wanted, _ := prog.Terms(withoutTrue(p))
		if e != api.OK || !equalAll(got, wanted) {
			t.Errorf("%v is written as %v, error %d, want %v", p, got, e, wanted)
		}
	}
}

// joinGoals joins goals by commas, in any way.
func joinGoals(r *rand.Rand, l []api.Term) api.Term {
	switch len(l) {
	case 0:
		return yes
	case 1:
		return l[0]
	}
	cut := r.Intn(len(l) + 1)
	return fun(",", joinGoals(r, l[:cut]), joinGoals(r, l[cut:]))
}

// TestP4_7_Read: however commas and true stand in what is read, and however variables are numbered, it is a program, and what is written of it is read as the same.
func TestP4_7_Read(t *testing.T) {
	r := rand.New(rand.NewSource(7))
	for _, p := range programs(false) {
		var l []api.Term
		for _, x := range p.Procs {
			if len(x.Clauses) == 0 || r.Intn(2) == 0 {
				l = append(l, fun(":-", fun("/", atom(x.Name), integer(x.Arity))))
			}
			for _, c := range x.Clauses {
				if c.Mark > 0 {
					l = append(l, atom([]string{"otherwise", "alternatively"}[c.Mark-1]))
				}
				head := atom(x.Name)
				if x.Arity > 0 {
					head = fun(x.Name, c.Head...)
				}
				whole, _ := term.Shift(fun(":-", head, fun("|", joinGoals(r, c.Guard), joinGoals(r, c.Body))), r.Intn(1000))
				l = append(l, whole)
			}
		}
		got, at, e := prog.Program(l)
		if e != api.OK || !equalPrograms(got, p) {
			t.Fatalf("%v is read as %v, error %d at %d", l, got, e, at)
		}
	}
}

// TestP4_7_Queries: what is written of a query is read as the query, but for true.
func TestP4_7_Queries(t *testing.T) {
	m := maker{rand.New(rand.NewSource(11)), true}
	for _, p := range programs(true) {
		q := m.query(p)
		written, e := prog.QueryTerm(q)
		if e != api.OK {
			t.Fatalf("QueryTerm of %v: error %d", q, e)
		}
		got, e := prog.Query(written)
		left := slices.DeleteFunc(slices.Clone(q.Goals), func(g api.Term) bool { return equal(g, yes) })
		if e != api.OK || !equalQueries(got, api.Query{Vars: q.Vars, Goals: left}) || prog.CheckQuery(p, got) != api.OK {
			t.Errorf("%v is read back as %v, error %d", q, got, e)
		}
	}
}

// TestP4_8_Components: just those that reach each other are together, and what they call stands ahead.
func TestP4_8_Components(t *testing.T) {
	r := rand.New(rand.NewSource(8))
	all := programs(false)
	for range 400 {
		n := r.Intn(12)
		calls := make([][]int, n)
		for range r.Intn(2*n + 1) {
			i := r.Intn(n)
			calls[i] = append(calls[i], r.Intn(n))
		}
		all = append(all, network(calls...))
	}
	for _, p := range all {
		got, e := prog.Components(p)
		wantLists(t, "Components", got, e, components(p)...)
		to := reached(p)
		place := make([]int, len(p.Procs))
		found := 0
		for k, l := range got {
			want(t, "the order in a component", slices.IsSorted(l), true)
			for _, i := range l {
				place[i] = k
				found++
			}
		}
		want(t, "each one once", found, len(p.Procs))
		for i := range p.Procs {
			for j := range p.Procs {
				want(t, "together", place[i] == place[j], i == j || to[i][j] && to[j][i])
				want(t, "ahead", to[i][j] && place[j] > place[i], false)
			}
		}
	}
}

// components finds components by the words of the chapter: the next one is that with the least procedure of those whose calls stand ahead.
func components(p api.Program) [][]int {
	to := reached(p)
	placed := map[int]bool{}
	var out [][]int
	for len(placed) < len(p.Procs) {
	next:
		for i := range p.Procs {
			if placed[i] {
				continue
			}
			var own []int
			for j := range p.Procs {
				if i == j || to[i][j] && to[j][i] {
					own = append(own, j)
				}
			}
			for _, j := range own {
				for _, k := range callsOf(p, j) {
					if !placed[k] && !slices.Contains(own, k) {
						continue next
					}
				}
			}
			for _, j := range own {
				placed[j] = true
			}
			out = append(out, own)
			break
		}
	}
	return out
}

// TestP4_9_Trim: what is left is a program that has what the query needs, and nothing else.
func TestP4_9_Trim(t *testing.T) {
	m := maker{rand.New(rand.NewSource(9)), false}
	less := 0
	for _, p := range programs(false) {
		for range 3 {
			q := m.query(p)
			got, e := prog.Trim(p, q)
			if e != api.OK || prog.CheckQuery(got, q) != api.OK {
				t.Fatalf("Trim of %v and %v: %v, error %d", p, q, got, e)
			}
			again, e := prog.Trim(got, q)
			wantProgram(t, "Trim again", again, e, got)
			reach, e := prog.Reach(p, q)
			if e != api.OK || len(reach) != len(got.Procs) {
				t.Fatalf("Reach of %v and %v: %v, error %d", p, q, reach, e)
			}
			to := reached(p)
			first := targets(p, q.Goals)
			for i := range p.Procs {
				is := slices.ContainsFunc(first, func(j int) bool { return i == j || to[j][i] })
				want(t, "Reach", slices.Contains(reach, i), is)
			}
			for k, i := range reach {
				want(t, "what is left", equalProcs(got.Procs[k], p.Procs[i]), true)
			}
			if len(got.Procs) < len(p.Procs) {
				less++
			}
		}
	}
	if less < 100 {
		t.Errorf("only %d programs became smaller", less)
	}
}

// names are the symbols of some procedures, sorted.
func names(p api.Program, l []int) []api.Symbol {
	var out []api.Symbol
	for _, i := range l {
		out = append(out, symbolsOf(p)[i])
	}
	slices.SortFunc(out, func(s, u api.Symbol) int { return cmp.Or(cmp.Compare(s.Name, u.Name), cmp.Compare(s.Arity, u.Arity)) })
	return out
}

// grouped are the components of a program, by symbols, sorted.
func grouped(t *testing.T, p api.Program) [][]api.Symbol {
	t.Helper()
	l, e := prog.Components(p)
	if e != api.OK {
		t.Fatalf("Components of %v: error %d", p, e)
	}
	var out [][]api.Symbol
	for _, c := range l {
		out = append(out, names(p, c))
	}
	slices.SortFunc(out, func(s, u []api.Symbol) int {
		return cmp.Or(cmp.Compare(s[0].Name, u[0].Name), cmp.Compare(s[0].Arity, u[0].Arity))
	})
	return out
}

// TestP4_10_Order: the order of procedures tells nothing of what calls what.
func TestP4_10_Order(t *testing.T) {
	m := maker{rand.New(rand.NewSource(10)), false}
	for _, p := range programs(false) {
		q := m.query(p)
		other := procs(slices.Clone(p.Procs)...)
		m.Shuffle(len(other.Procs), func(i, j int) { other.Procs[i], other.Procs[j] = other.Procs[j], other.Procs[i] })
		want(t, "components", slices.EqualFunc(grouped(t, p), grouped(t, other), slices.Equal), true)
		sorted, e := prog.Sorted(p)
		want(t, "Sorted", e, api.OK)
		wantSorted, e := prog.Sorted(other)
		wantProgram(t, "Sorted", sorted, e, wantSorted)
		want(t, "Sorted", slices.Equal(symbolsOf(sorted), names(p, allOf(p))), true)
		one, e := prog.Reach(p, q)
		want(t, "Reach", e, api.OK)
		two, e := prog.Reach(other, q)
		want(t, "Reach", e, api.OK)
		want(t, "Reach", slices.Equal(names(p, one), names(other, two)), true)
	}
}

// allOf are the indices of all procedures.
func allOf(p api.Program) []int {
	var out []int
	for i := range p.Procs {
		out = append(out, i)
	}
	return out
}

// varsOf are the variables of a clause.
func varsOf(c api.Clause) []int {
	l, e := term.Vars(slices.Concat(c.Head, c.Guard, c.Body))
	if e != api.OK {
		panic(e)
	}
	return l
}

// TestP4_11_Variables: clauses that differ in numbers alone are normalized to the same; fresh ones that are far apart share nothing.
func TestP4_11_Variables(t *testing.T) {
	r := rand.New(rand.NewSource(11))
	for _, p := range programs(true) {
		for _, x := range p.Procs {
			for _, c := range x.Clauses {
				got, e := prog.Normal(numbered(c, r.Intn(9), r.Perm(80)...))
				wantClause(t, "Normal of other numbers", got, e, c)
				from := r.Intn(99000)
				fresh, e := prog.Fresh(c, from)
				if e != api.OK || fresh.Vars != c.Vars || len(varsOf(fresh)) != c.Vars {
					t.Fatalf("Fresh of %v: %v, error %d", c, fresh, e)
				}
				for i, v := range varsOf(fresh) {
					want(t, "the variable of Fresh", v, from+i)
				}
				back, e := prog.Normal(fresh)
				wantClause(t, "Normal of Fresh", back, e, c)
				other, e := prog.Fresh(c, from+c.Vars)
				want(t, "Fresh behind it", e, api.OK)
				for _, v := range varsOf(other) {
					want(t, "shared", slices.Contains(varsOf(fresh), v), false)
				}
			}
		}
	}
}

// madeModules are modules by chance, which import from each other.
func madeModules(r *rand.Rand) []api.Module {
	m := maker{r, true}
	out := make([]api.Module, 1+r.Intn(4))
	for i := range out {
		out[i].Name = string(rune('k' + i))
	}
	known := map[string][]api.Symbol{}
	for i := range out {
		known[out[i].Name] = slices.Clone(m.symbols(4))
		out[i].Exports = slices.DeleteFunc(slices.Clone(known[out[i].Name]), func(api.Symbol) bool { return r.Intn(3) == 0 })
	}
	for i := range out {
		var callable []api.Symbol
		for _, from := range out {
			for k, s := range from.Exports {
				if from.Name != out[i].Name && r.Intn(2) == 0 {
					own := symbol("i"+from.Name+string(rune('a'+k)), s.Arity)
					out[i].Imports = append(out[i].Imports, api.Import{Own: own, Module: from.Name, From: s})
					callable = append(callable, own)
				}
				// No goal calls what has no name.
				if from.Name != out[i].Name && r.Intn(8) == 0 {
					own := symbol(strings.Repeat("\x00", len(out[i].Imports)), s.Arity)
					out[i].Imports = append(out[i].Imports, api.Import{Own: own, Module: from.Name, From: s})
				}
			}
		}
		for _, s := range known[out[i].Name] {
			x := proc(s.Name, s.Arity)
			for range r.Intn(3) {
				x.Clauses = append(x.Clauses, m.clause(s.Arity, slices.Concat(callable, known[out[i].Name])))
			}
			out[i].P.Procs = append(out[i].P.Procs, x)
		}
	}
	return out
}

// meant are the names in a joined program of what the goals of a module call, in order, by hand; of other goals their own symbols.
func meant(m api.Module, goals []api.Term) []api.Symbol {
	var out []api.Symbol
	for _, g := range goals {
		if g.S == "@" {
			g = g.L[0]
		}
		s := symbol(g.S, len(g.L))
		if slices.Contains(symbolsOf(m.P), s) {
			s.Name = m.Name + ":" + s.Name
		}
		for _, i := range m.Imports {
			if i.Own == symbol(g.S, len(g.L)) {
				s.Name = i.Module + ":" + i.From.Name
			}
		}
		out = append(out, s)
	}
	return out
}

// TestP4_12_Joined: procedures of the joined program call each other as those of the modules do; the order of modules does not matter.
func TestP4_12_Joined(t *testing.T) {
	r := rand.New(rand.NewSource(12))
	imported := 0
	for range 300 {
		l := madeModules(r)
		p, e := prog.Join(l)
		if e != api.OK {
			t.Fatalf("Join of %v: error %d", l, e)
		}
		check(t, p)
		next := 0
		for _, m := range l {
			imported += len(m.Imports)
			for _, x := range m.P.Procs {
				got := p.Procs[next]
				next++
				want(t, "the symbol", symbol(got.Name, got.Arity), symbol(m.Name+":"+x.Name, x.Arity))
				for k, c := range x.Clauses {
					d := got.Clauses[k]
					want(t, "the calls", slices.Equal(meant(api.Module{}, d.Body), meant(m, c.Body)), true)
					want(t, "all else", equalClauses(nameless(d), nameless(c)), true)
				}
			}
		}
		want(t, "procedures", len(p.Procs), next)
		sorted, e := prog.Sorted(p)
		want(t, "Sorted", e, api.OK)
		r.Shuffle(len(l), func(i, j int) { l[i], l[j] = l[j], l[i] })
		other, e := prog.Join(l)
		want(t, "Join in another order", e, api.OK)
		other, e = prog.Sorted(other)
		wantProgram(t, "Join in another order", other, e, sorted)
	}
	if imported < 300 {
		t.Errorf("only %d imports", imported)
	}
}

// nameless is a clause whose goals have no names, their priorities aside.
func nameless(c api.Clause) api.Clause {
	c.Body = slices.Clone(c.Body)
	for i, g := range c.Body {
		if g.S == "@" {
			c.Body[i] = fun("@", atom(""), g.L[1])
			g = g.L[0]
		}
		c.Guard = append(slices.Clone(c.Guard), vec(g.L...))
	}
	for i := range c.Body {
		if c.Body[i].S != "@" {
			c.Body[i] = none
		}
	}
	return c
}

// without is a list without one element.
func without[T any](l []T, i int) []T { return slices.Delete(slices.Clone(l), i, i+1) }

// TestP4_13_Kept: a program stays one if a clause, a test, a goal, or a procedure that no other one calls, is taken out.
func TestP4_13_Kept(t *testing.T) {
	for _, p := range programs(true) {
		changed := func(i, j int, c api.Clause) {
			out := procs(slices.Clone(p.Procs)...)
			out.Procs[i].Clauses = slices.Clone(p.Procs[i].Clauses)
			normal, e := prog.Normal(c)
			want(t, "Normal", e, api.OK)
			out.Procs[i].Clauses[j] = normal
			check(t, out)
		}
		for i, x := range p.Procs {
			for j, c := range x.Clauses {
				out := procs(slices.Clone(p.Procs)...)
				out.Procs[i].Clauses = without(x.Clauses, j)
				check(t, out)
				for k := range c.Guard {
					d := c
					d.Guard = without(c.Guard, k)
					changed(i, j, d)
				}
				for k := range c.Body {
					d := c
					d.Body = without(c.Body, k)
					changed(i, j, d)
				}
			}
			called := false
			for k := range p.Procs {
				called = called || k != i && slices.Contains(callsOf(p, k), i)
			}
			out := procs(without(p.Procs, i)...)
			if e := prog.Check(out); (e == api.OK) == called {
				t.Errorf("without %s, which is called: %v: error %d", x.Name, called, e)
			}
		}
	}
}
