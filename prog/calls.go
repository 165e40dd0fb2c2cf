package prog

import "riparian/api"

// index has the indices of procedures, by their symbols.
type index map[api.Symbol]int

// newIndex returns that of the procedures of a program.
func newIndex(p api.Program) index {
	out := index{}
	for i, x := range p.Procs {
		out[symbolOfProc(x)] = i
	}
	return out
}

// symbolOfProc returns the symbol of a procedure.
func symbolOfProc(x api.Proc) api.Symbol { return api.Symbol{Name: x.Name, Arity: x.Arity} }

// row says of each procedure of a program whether it is meant.
type row [api.MaxProcs]bool

// list returns those that are meant.
func (r row) list() []int {
	var out []int
	for i, is := range r {
		if is {
			out = append(out, i)
		}
	}
	return out
}

// graph has which procedures each one of a program calls.
type graph struct {
	goals
	index index
	rows  []row
}

// newGraph returns that of a valid program.
func newGraph(p api.Program) graph {
	out := graph{goals: newGoals(), index: newIndex(p), rows: make([]row, len(p.Procs))}
	for i, x := range p.Procs {
		for _, c := range x.Clauses {
			out.note(&out.rows[i], c.Body)
		}
	}
	return out
}

// note adds to a row what goals call.
func (g graph) note(to *row, l []api.Term) {
	for _, t := range l {
		if s, is := g.call(t); is {
			to[g.index[s]] = true
		}
	}
}

// reach returns some procedures, and all that they call, directly or through others.
func (g graph) reach(first row) row {
	var out row
	var visit func(called row)
	visit = func(called row) {
		for i, is := range called {
			if is && !out[i] {
				out[i] = true
				visit(g.rows[i])
			}
		}
	}
	visit(first)
	return out
}

// ofQuery returns the procedures that a query comes to.
func (g graph) ofQuery(q api.Query) row {
	var called row
	g.note(&called, q.Goals)
	return g.reach(called)
}

// ofEach returns for each procedure itself, and all that it calls, directly or through others. Those of one component have the same.
func (g graph) ofEach() []row {
	out := make([]row, len(g.rows))
	for i := range out {
		var alone row
		alone[i] = true
		out[i] = g.reach(alone)
	}
	return out
}

// Calls returns the procedures that a procedure calls.
func Calls(p api.Program, proc int) ([]int, api.Errno) {
	if e := Check(p); e != api.OK {
		return nil, e
	}
	if proc < 0 || proc >= len(p.Procs) {
		return nil, api.ErrArg
	}
	return newGraph(p).rows[proc].list(), api.OK
}

// Reach returns the procedures that a query can come to.
func Reach(p api.Program, q api.Query) ([]int, api.Errno) {
	if e := CheckQuery(p, q); e != api.OK {
		return nil, e
	}
	return newGraph(p).ofQuery(q).list(), api.OK
}

// Components returns the procedures that call each other, those that are called first.
func Components(p api.Program) ([][]int, api.Errno) {
	if e := Check(p); e != api.OK {
		return nil, e
	}
	reached := newGraph(p).ofEach()
	var placed row
	var out [][]int
	for len(placed.list()) < len(reached) {
		next := nextComponent(reached, placed)
		for _, i := range next {
			placed[i] = true
		}
		out = append(out, next)
	}
	return out, api.OK
}

// nextComponent returns the component with the least procedure of those that are not placed, but all others to which they come.
func nextComponent(reached []row, placed row) []int {
	for i, all := range reached {
		if !placed[i] && isNext(reached, placed, i) {
			var own row
			for j := range reached {
				own[j] = reached[j] == all
			}
			return own.list()
		}
	}
	return nil
}

// isNext reports whether all procedures to which one comes are placed, but for those of its own component.
func isNext(reached []row, placed row, proc int) bool {
	for _, j := range reached[proc].list() {
		if !placed[j] && reached[j] != reached[proc] {
			return false
		}
	}
	return true
}

// Trim returns the program without the procedures that a query does not come to.
func Trim(p api.Program, q api.Query) (api.Program, api.Errno) {
	if e := CheckQuery(p, q); e != api.OK {
		return api.Program{}, e
	}
	var out api.Program
	for _, i := range newGraph(p).ofQuery(q).list() {
		out.Procs = append(out.Procs, copyProc(p.Procs[i]))
	}
	return out, api.OK
}
