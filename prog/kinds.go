package prog

import (
	"riparian/api"
	"riparian/term"
)

// operators are the symbols of expressions that have others within them.
type operators map[api.Symbol]bool

// newOperators returns all operators.
func newOperators() operators {
	return operators{
		{Name: "+", Arity: 2}: true, {Name: "-", Arity: 2}: true, {Name: "*", Arity: 2}: true, {Name: "/", Arity: 2}: true, {Name: "mod", Arity: 2}: true,
		{Name: "-", Arity: 1}: true,
	}
}

// expr reports whether a term is an expression.
func (o operators) expr(t api.Term) bool {
	if t.Kind == api.KInt || t.Kind == api.KVar {
		return true
	}
	s, is := symbolOf(t)
	return is && o[s] && every(t.L, o.expr)
}

// tests are the symbols of tests, with whether they compare numbers: then their arguments are expressions.
type tests struct {
	operators
	numeric map[api.Symbol]bool
}

// newTests returns all tests.
func newTests() tests {
	out := tests{newOperators(), map[api.Symbol]bool{
		{Name: "true", Arity: 0}: false, {Name: "==", Arity: 2}: false, {Name: "\\==", Arity: 2}: false,
	}}
	for _, name := range []string{"wait", "integer", "atom", "string", "vector", "list"} {
		out.numeric[api.Symbol{Name: name, Arity: 1}] = false
	}
	for _, name := range []string{"=:=", "=\\=", "<", "=<", ">", ">="} {
		out.numeric[api.Symbol{Name: name, Arity: 2}] = true
	}
	return out
}

// test reports whether a term is a test.
func (x tests) test(t api.Term) bool {
	s, _ := symbolOf(t)
	numeric, is := x.numeric[s]
	return is && (!numeric || every(t.L, x.expr))
}

// goals are the reserved symbols, with the kinds of the goals that have them (GoNone: they are no goals).
type goals map[api.Symbol]int

// newGoals returns all reserved symbols.
func newGoals() goals {
	return goals{
		{Name: "true", Arity: 0}:          api.GoTrue,
		{Name: "=", Arity: 2}:             api.GoUnify,
		{Name: ":=", Arity: 2}:            api.GoIs,
		{Name: "vector_new", Arity: 2}:    api.GoData,
		{Name: "vector_size", Arity: 3}:   api.GoData,
		{Name: "vector_get", Arity: 4}:    api.GoData,
		{Name: "vector_set", Arity: 4}:    api.GoData,
		{Name: "string_new", Arity: 2}:    api.GoData,
		{Name: "string_size", Arity: 3}:   api.GoData,
		{Name: "string_get", Arity: 4}:    api.GoData,
		{Name: "string_set", Arity: 4}:    api.GoData,
		{Name: "string_join", Arity: 3}:   api.GoData,
		{Name: "@", Arity: 2}:             api.GoNone,
		{Name: ":-", Arity: 2}:            api.GoNone,
		{Name: ":-", Arity: 1}:            api.GoNone,
		{Name: ",", Arity: 2}:             api.GoNone,
		{Name: "|", Arity: 2}:             api.GoNone,
		{Name: "otherwise", Arity: 0}:     api.GoNone,
		{Name: "alternatively", Arity: 0}: api.GoNone,
	}
}

// reserved reports whether no procedure has a symbol.
func (g goals) reserved(s api.Symbol) bool {
	_, is := g[s]
	return is
}

// goal returns the kind of a goal, its priority, and the goal without it; GoNone alone, if the term is no goal.
func (g goals) goal(t api.Term) (int, int, api.Term) {
	bare, prio := t, 0
	if isPrior(t) {
		bare, prio = t.L[0], t.L[1].N
	}
	kind := g.kind(bare)
	if kind == api.GoNone {
		return api.GoNone, 0, api.Term{}
	}
	return kind, prio, bare
}

// kind returns the kind of a goal that has no priority of its own; a goal with one is none such, because its symbol is reserved.
func (g goals) kind(t api.Term) int {
	s, is := symbolOf(t)
	if !is {
		return api.GoNone
	}
	kind, reserved := g[s]
	if !reserved {
		return api.GoCall
	}
	return kind
}

// isGoal reports whether a term is a goal.
func (g goals) isGoal(t api.Term) bool {
	kind, _, _ := g.goal(t)
	return kind != api.GoNone
}

// call returns the symbol of the procedure that a goal calls; false, if it calls none.
func (g goals) call(t api.Term) (api.Symbol, bool) {
	kind, _, bare := g.goal(t)
	if kind != api.GoCall {
		return api.Symbol{}, false
	}
	return symbolOf(bare)
}

// words are all symbols that the language gives a meaning to.
type words struct {
	tests
	goals
}

// newWords returns all of them.
func newWords() words { return words{newTests(), newGoals()} }

// Expr reports whether t is an expression.
func Expr(t api.Term) bool { return term.Check(t) == api.OK && newOperators().expr(t) }

// Test reports whether t is a test.
func Test(t api.Term) bool { return term.Check(t) == api.OK && newTests().test(t) }

// Goal returns the kind of a goal, its priority, and the goal without it.
func Goal(t api.Term) (int, int, api.Term) {
	if term.Check(t) != api.OK {
		return api.GoNone, 0, api.Term{}
	}
	kind, prio, bare := newGoals().goal(t)
	return kind, prio, copyTerm(bare)
}

// Reserved reports whether a symbol is none of a procedure.
func Reserved(s api.Symbol) bool { return newGoals().reserved(s) }
