package prog_test

import (
	"math/rand"
	"slices"
	"strings"
	"testing"

	"riparian/api"
	"riparian/prog"
	"riparian/read"
)

func variable(n int) api.Term    { return api.Term{Kind: api.KVar, N: n} }
func integer(n int) api.Term     { return api.Term{Kind: api.KInt, N: n} }
func atom(s string) api.Term     { return api.Term{Kind: api.KAtom, S: s} }
func str(s string) api.Term      { return api.Term{Kind: api.KStr, S: s} }
func vec(l ...api.Term) api.Term { return api.Term{Kind: api.KVec, L: l} }
func fun(s string, l ...api.Term) api.Term {
	return api.Term{Kind: api.KFun, S: s, L: l}
}
func symbol(s string, arity int) api.Symbol { return api.Symbol{Name: s, Arity: arity} }

var (
	x, y, z = variable(0), variable(1), variable(2)
	a, b, c = atom("a"), atom("b"), atom("c")
	yes     = atom("true")
	none    = api.Term{}
)

// of is the term that a text is.
func of(text string) api.Term {
	t, _, at, e := read.Term(text)
	if e != api.OK {
		panic(text[at:])
	}
	return t
}

// lines are the terms of a text, each with a point behind it.
func lines(text string) []api.Term {
	l, at, e := read.Terms(text)
	if e != api.OK {
		panic(text[at:])
	}
	return l
}

// list are terms with a comma between each two of them, which share their variables.
func list(text string) []api.Term {
	if text == "" {
		return nil
	}
	return of("all(" + text + ")").L
}

// count is how many variables normal terms have.
func count(l ...[]api.Term) int {
	most := 0
	for _, terms := range l {
		for _, t := range terms {
			if t.Kind == api.KVar {
				most = max(most, t.N+1)
			}
			most = max(most, count(t.L))
		}
	}
	return most
}

// clause is the clause with the terms that three lists say, which share their variables.
func clause(head, guard, body string) api.Clause {
	parts := []string{head, guard, body}
	for i, part := range parts {
		parts[i] = "[]"
		if part != "" {
			parts[i] = "l(" + part + ")"
		}
	}
	l := list(strings.Join(parts, ", "))
	return api.Clause{Vars: count(l), Head: l[0].L, Guard: l[1].L, Body: l[2].L}
}

// marked is a clause with a mark.
func marked(mark int, c api.Clause) api.Clause {
	c.Mark = mark
	return c
}

// proc is a procedure.
func proc(name string, arity int, l ...api.Clause) api.Proc {
	return api.Proc{Name: name, Arity: arity, Clauses: l}
}

// procs are a program of procedures.
func procs(l ...api.Proc) api.Program { return api.Program{Procs: l} }

// query is the query with these goals, which share their variables.
func query(goals string) api.Query {
	l := list(goals)
	return api.Query{Vars: count(l), Goals: l}
}

// program is the program that a text is.
func program(t *testing.T, text string) api.Program {
	t.Helper()
	p, at, e := prog.Program(lines(text))
	if e != api.OK {
		t.Fatalf("Program of %q: error %d at %d", text, e, at)
	}
	return p
}

// goalOf is a goal p(..) with so many nodes.
func goalOf(nodes int) api.Term {
	out := fun("p")
	for nodes--; nodes > 0; {
		row := vec()
		for nodes--; nodes > 0 && len(row.L) < api.MaxVec; nodes-- {
			row.L = append(row.L, a)
		}
		out.L = append(out.L, row)
	}
	return out
}

// chain returns a term of so many nodes, each within the one ahead.
func chain(name string, depth int, last api.Term) api.Term {
	for range depth - 1 {
		last = fun(name, last)
	}
	return last
}

// badTerms are trees that are no terms.
func badTerms() []api.Term {
	return []api.Term{
		none, {Kind: 7}, {Kind: -1}, variable(-1), variable(api.MaxVar), integer(api.MaxInt + 1), atom(""), fun("f"), atom("a\n"), atom(strings.Repeat("a", 33)), str(strings.Repeat("a", 256)),
		fun("f", a, none), vec(fun("g", fun("f"))), {Kind: api.KInt, S: "a"}, {Kind: api.KAtom, S: "true", N: 1}, {Kind: api.KAtom, S: "true", L: []api.Term{a}}, fun("=", x, none), fun("@", fun("f"), integer(1)), chain("f", api.MaxDeep+1, a),
	}
}

// equal compares two trees by hand.
func equal(s, t api.Term) bool {
	return s.Kind == t.Kind && s.N == t.N && s.S == t.S && slices.EqualFunc(s.L, t.L, equal)
}

func equalAll(s, t []api.Term) bool { return slices.EqualFunc(s, t, equal) }

func equalClauses(c, d api.Clause) bool {
	return c.Mark == d.Mark && c.Vars == d.Vars && equalAll(c.Head, d.Head) && equalAll(c.Guard, d.Guard) && equalAll(c.Body, d.Body)
}

func equalProcs(p, q api.Proc) bool {
	return p.Name == q.Name && p.Arity == q.Arity && slices.EqualFunc(p.Clauses, q.Clauses, equalClauses)
}

func equalPrograms(p, q api.Program) bool { return slices.EqualFunc(p.Procs, q.Procs, equalProcs) }

func equalQueries(p, q api.Query) bool { return p.Vars == q.Vars && equalAll(p.Goals, q.Goals) }

func want[T comparable](t *testing.T, name string, got, wanted T) {
	t.Helper()
	if got != wanted {
		t.Errorf("%s: got %v, want %v", name, got, wanted)
	}
}

func wantNumbers(t *testing.T, name string, got []int, e api.Errno, wanted ...int) {
	t.Helper()
	if e != api.OK || !slices.Equal(got, wanted) {
		t.Errorf("%s: got %v, error %d, want %v", name, got, e, wanted)
	}
}

func wantProgram(t *testing.T, name string, got api.Program, e api.Errno, wanted api.Program) {
	t.Helper()
	if e != api.OK || !equalPrograms(got, wanted) {
		t.Errorf("%s: got %v, error %d, want %v", name, got, e, wanted)
	}
}

// wantNoProgram wants an error, and nothing beside it.
func wantNoProgram(t *testing.T, name string, got api.Program, e, wanted api.Errno) {
	t.Helper()
	if e != wanted || len(got.Procs) != 0 {
		t.Errorf("%s: got %d procedures, error %d, want error %d alone", name, len(got.Procs), e, wanted)
	}
}

// check wants that p is a program.
func check(t *testing.T, p api.Program) {
	t.Helper()
	if e := prog.Check(p); e != api.OK {
		t.Fatalf("Check of %v: error %d", p, e)
	}
}

// badClauses are clauses for one argument, each with one thing that no clause has; they could call p/1.
func badClauses() map[string]api.Clause {
	good := clause("X", "X > 0", "Y = X, p(Y)")
	out := map[string]api.Clause{}
	add := func(name string, change func(*api.Clause)) {
		c := good
		change(&c)
		out[name] = c
	}
	add("mark 3", func(c *api.Clause) { c.Mark = 3 })
	add("mark -1", func(c *api.Clause) { c.Mark = -1 })
	add("no head", func(c *api.Clause) { *c = clause("", "", "p(X)") })
	add("two arguments", func(c *api.Clause) { *c = clause("X, Y", "", "p(X)") })
	add("fewer variables", func(c *api.Clause) { c.Vars = 1 })
	add("more variables", func(c *api.Clause) { c.Vars = 3 })
	add("-1 variables", func(c *api.Clause) { c.Vars = -1 })
	add("9 tests", func(c *api.Clause) { c.Guard = slices.Repeat([]api.Term{yes}, 9) })
	add("17 goals", func(c *api.Clause) { *c = clause("X", "", ""); c.Body = slices.Repeat([]api.Term{yes}, 17) })
	add("401 nodes", func(c *api.Clause) { *c = clause("X", "", ""); c.Body = []api.Term{goalOf(400)} })
	add("no test", func(c *api.Clause) { *c = clause("X", "true, q(X)", "p(X)") })
	add("a test of no expression", func(c *api.Clause) { *c = clause("X", "X < a", "p(X)") })
	add("no goal", func(c *api.Clause) { *c = clause("X", "", "p(X), 1") })
	add("a variable as a goal", func(c *api.Clause) { *c = clause("X", "", "X") })
	add("a goal with two priorities", func(c *api.Clause) { *c = clause("X", "", "(p(X) @ 1) @ 2") })
	add("a reserved goal", func(c *api.Clause) { *c = clause("X", "", "otherwise") })
	add("a guard's own variable", func(c *api.Clause) { *c = clause("X", "Y > 0", "p(Y)") })
	add("a guard's own variable within", func(c *api.Clause) { *c = clause("X", "X == f(X), wait(f(Y))", "p(Y)") })
	add("not normal in the head", func(c *api.Clause) { c.Head = []api.Term{fun("f", y, x)} })
	add("not normal in the body", func(c *api.Clause) { c.Vars, c.Body = 3, []api.Term{fun("p", z)} })
	add("begins with another variable", func(c *api.Clause) { *c = api.Clause{Vars: 2, Head: []api.Term{y}} })
	for i, t := range badTerms() {
		name := string(rune('a' + i))
		add("no term in the head "+name, func(c *api.Clause) { *c = api.Clause{Head: []api.Term{t}} })
		add("no term in the guard "+name, func(c *api.Clause) { c.Guard = []api.Term{fun("wait", t)} })
		add("no test "+name, func(c *api.Clause) { c.Guard = []api.Term{t} })
		add("no term in the body "+name, func(c *api.Clause) { c.Body = []api.Term{fun("p", y), fun("p", t)} })
		add("no goal "+name, func(c *api.Clause) { c.Body = []api.Term{fun("p", y), t} })
	}
	return out
}

// badPrograms are programs, each with one thing that no program has.
func badPrograms() map[string]api.Program {
	good := proc("p", 1, clause("X", "", "p(X)"))
	out := map[string]api.Program{
		"the same twice":        procs(good, proc("q", 0), good),
		"no name":               procs(good, proc("", 0)),
		"33 bytes":              procs(proc(strings.Repeat("n", 33), 0)),
		"a line feed":           procs(proc("p\n", 1)),
		"arity -1":              procs(proc("p", -1)),
		"arity 17":              procs(proc("p", 17)),
		"a reserved one":        procs(good, proc("=", 2)),
		"reserved without text": procs(proc("otherwise", 0)),
		"33 clauses":            procs(proc("p", 1, slices.Repeat([]api.Clause{clause("X", "", "")}, 33)...)),
		"calls another arity":   procs(good, proc("q", 0, clause("", "", "q, p(X, Y)"))),
		"calls another name":    procs(good, proc("q", 0, clause("", "", "p(X)"), clause("", "", "nobody @ 3, q"))),
		"an argument too many":  procs(proc("p", 0, clause("X", "", ""))),
		"65 procedures":         many(65),
	}
	for name, c := range badClauses() {
		out["clause: "+name] = procs(good, proc("q", 1, clause("1", "", ""), c))
	}
	return out
}

// many are so many procedures without clauses.
func many(n int) api.Program {
	var out api.Program
	for i := range n {
		out.Procs = append(out.Procs, proc(string(rune('a'+i/26))+string(rune('a'+i%26)), 0))
	}
	return out
}

// badQueries are queries of a program with p/1, each with one thing that no query has.
func badQueries() map[string]api.Query {
	wide := api.Query{Goals: []api.Term{goalOf(401)}}
	out := map[string]api.Query{
		"17 goals":        {Goals: slices.Repeat([]api.Term{yes}, 17)},
		"401 nodes":       wide,
		"fewer variables": {Vars: 1, Goals: list("p(X), p(Y)")},
		"more variables":  {Vars: 1, Goals: list("true")},
		"-1 variables":    {Vars: -1},
		"not normal":      {Vars: 2, Goals: []api.Term{fun("=", y, x)}},
		"65 variables":    manyVars(65),
		"no goal":         query("p(X), {}"),
		"a reserved goal": query("true, (true, true)"),
		"two priorities":  {Goals: []api.Term{fun("@", fun("@", yes, integer(1)), integer(1))}},
	}
	for i, t := range badTerms() {
		name := string(rune('a' + i))
		out["no term "+name] = api.Query{Goals: []api.Term{t}}
		out["no term within "+name] = api.Query{Goals: []api.Term{yes, fun("=", a, t)}}
	}
	return out
}

// manyVars is a query with so many variables.
func manyVars(n int) api.Query {
	l := make([]api.Term, n)
	for i := range l {
		l[i] = variable(i)
	}
	return api.Query{Vars: n, Goals: []api.Term{fun("=", vec(l[:n/2]...), vec(l[n/2:]...))}}
}

// maker makes programs by chance, the same ones from the same source.
type maker struct {
	*rand.Rand
	trues bool // whether true can stand in guards and bodies
}

// pick returns one of some.
func pick[T any](r *rand.Rand, l ...T) T { return l[r.Intn(len(l))] }

// term returns a term over the variables below n.
func (m maker) term(depth, n int) api.Term {
	if n > 0 && m.Intn(2) == 0 {
		return variable(m.Intn(n))
	}
	if depth <= 1 || m.Intn(3) == 0 {
		return pick(m.Rand, a, b, integer(m.Intn(3)), str("s"), atom("[]"), vec())
	}
	first, second := m.term(depth-1, n), m.term(depth-1, n)
	return pick(m.Rand, fun("f", first), fun("g", first, second), fun(".", first, second), vec(second, first))
}

// expr returns an expression over the variables below n.
func (m maker) expr(depth, n int) api.Term {
	if depth <= 1 || m.Intn(3) == 0 {
		if n > 0 && m.Intn(2) == 0 {
			return variable(m.Intn(n))
		}
		return integer(m.Intn(9) - 4)
	}
	first, second := m.expr(depth-1, n), m.expr(depth-1, n)
	return pick(m.Rand, fun("+", first, second), fun("-", first, second), fun("*", first, second), fun("/", first, second), fun("mod", first, second), fun("-", first))
}

// test returns a test over the variables below n.
func (m maker) test(n int) api.Term {
	if m.trues && m.Intn(4) == 0 {
		return yes
	}
	switch m.Intn(3) {
	case 0:
		return fun(pick(m.Rand, "wait", "integer", "atom", "string", "vector", "list"), m.term(2, n))
	case 1:
		return fun(pick(m.Rand, "==", "\\=="), m.term(2, n), m.term(2, n))
	}
	return fun(pick(m.Rand, "=:=", "=\\=", "<", "=<", ">", ">="), m.expr(2, n), m.expr(2, n))
}

// goal returns a goal over the variables below n that can call some procedures.
func (m maker) goal(n int, known []api.Symbol) api.Term {
	if m.Intn(6) == 0 {
		return fun("@", m.goalAlone(n, known), integer(m.Intn(16)))
	}
	return m.goalAlone(n, known)
}

func (m maker) goalAlone(n int, known []api.Symbol) api.Term {
	if m.trues && m.Intn(4) == 0 {
		return yes
	}
	if len(known) == 0 || m.Intn(3) == 0 {
		s := pick(m.Rand, symbol("=", 2), symbol(":=", 2), symbol("vector_get", 4), symbol("string_join", 3))
		return m.call(s, n)
	}
	return m.call(pick(m.Rand, known...), n)
}

// call returns a term with a symbol.
func (m maker) call(s api.Symbol, n int) api.Term {
	if s.Arity == 0 {
		return atom(s.Name)
	}
	out := fun(s.Name)
	for range s.Arity {
		out.L = append(out.L, m.term(2, n))
	}
	return out
}

// clause returns a clause for so many arguments.
func (m maker) clause(arity int, known []api.Symbol) api.Clause {
	for {
		out := api.Clause{Mark: m.Intn(3)}
		for range arity {
			out.Head = append(out.Head, m.term(3, 3))
		}
		for range m.Intn(3) {
			out.Guard = append(out.Guard, m.test(3))
		}
		for range m.Intn(4) {
			out.Body = append(out.Body, m.goal(5, known))
		}
		normal, e := prog.Normal(out)
		if e == api.OK {
			return normal
		}
	}
}

// symbols returns different symbols, n at most.
func (m maker) symbols(n int) []api.Symbol {
	all := []api.Symbol{symbol("a", 0), symbol("a", 1), symbol("b", 1), symbol("c", 2), symbol("c", 3), symbol("d", 0), symbol("=", 1), symbol("true", 1), symbol("|", 3), symbol("[]", 0), symbol(",", 1), symbol("wait", 1), symbol("<", 2)}
	m.Shuffle(len(all), func(i, j int) { all[i], all[j] = all[j], all[i] })
	return all[:m.Intn(n+1)]
}

// program returns a program that can also call others.
func (m maker) program(n int, others ...api.Symbol) api.Program {
	known := m.symbols(n)
	var out api.Program
	for _, s := range known {
		p := proc(s.Name, s.Arity)
		callable := slices.Concat(known, others)
		m.Shuffle(len(callable), func(i, j int) { callable[i], callable[j] = callable[j], callable[i] })
		for range m.Intn(4) {
			p.Clauses = append(p.Clauses, m.clause(s.Arity, callable[:min(2, len(callable))]))
		}
		out.Procs = append(out.Procs, p)
	}
	return out
}

// query returns a query of a program.
func (m maker) query(p api.Program) api.Query {
	known := symbolsOf(p)
	var goals []api.Term
	for range m.Intn(3) {
		goals = append(goals, m.goal(4, known))
	}
	// A clause without a head is numbered as a query is.
	c, e := prog.Normal(api.Clause{Body: goals})
	if e != api.OK {
		panic(e)
	}
	return api.Query{Vars: c.Vars, Goals: c.Body}
}

// symbolsOf returns the symbols of the procedures.
func symbolsOf(p api.Program) []api.Symbol {
	var out []api.Symbol
	for _, x := range p.Procs {
		out = append(out, symbol(x.Name, x.Arity))
	}
	return out
}

// programs are many programs by chance.
func programs(trues bool) []api.Program {
	m := maker{rand.New(rand.NewSource(4)), trues}
	var out []api.Program
	for range 400 {
		out = append(out, m.program(7))
	}
	return out
}

// targets are the symbols that a goal, looked at by hand, can call: its own one, if some procedure has it.
func targets(p api.Program, goals []api.Term) []int {
	var out []int
	for _, g := range goals {
		if g.S == "@" && len(g.L) == 2 {
			g = g.L[0]
		}
		if i := slices.Index(symbolsOf(p), symbol(g.S, len(g.L))); i >= 0 {
			out = append(out, i)
		}
	}
	slices.Sort(out)
	return slices.Compact(out)
}

// callsOf are which procedures a procedure calls, by hand.
func callsOf(p api.Program, i int) []int {
	var goals []api.Term
	for _, c := range p.Procs[i].Clauses {
		goals = append(goals, c.Body...)
	}
	return targets(p, goals)
}

// reached says of each two procedures whether the second one is called by the first one, directly or through others: by as many rounds as there are procedures.
func reached(p api.Program) [][]bool {
	n := len(p.Procs)
	out := make([][]bool, n)
	for i := range out {
		out[i] = make([]bool, n)
		for _, j := range callsOf(p, i) {
			out[i][j] = true
		}
	}
	for k := range n {
		for i := range n {
			for j := range n {
				out[i][j] = out[i][j] || out[i][k] && out[k][j]
			}
		}
	}
	return out
}
