package prog

import (
	"strings"

	"riparian/api"
)

// exported is a procedure that a module exports.
type exported struct {
	module string
	symbol api.Symbol
}

// joint has what modules that are to be joined export.
type joint struct {
	words
	exports map[exported]bool
}

// newJoint returns that of modules; false, if names or exports are wrong.
func newJoint(l []api.Module) (joint, bool) {
	out := joint{newWords(), map[exported]bool{}}
	if len(l) > api.MaxModules {
		return joint{}, false
	}
	names := map[string]bool{}
	for _, m := range l {
		if names[m.Name] || !isName(m.Name) || strings.Contains(m.Name, ":") || !out.export(m) {
			return joint{}, false
		}
		names[m.Name] = true
	}
	return out, true
}

// export adds what a module exports; false, if that is wrong.
func (j joint) export(m api.Module) bool {
	own := newIndex(m.P)
	for _, s := range m.Exports {
		x := exported{m.Name, s}
		if _, there := own[s]; !there || j.exports[x] {
			return false
		}
		j.exports[x] = true
	}
	return true
}

// isModule reports whether a module is right, its name and its exports aside.
func (j joint) isModule(m api.Module) bool {
	known := newIndex(m.P)
	var imports []api.Symbol
	for _, x := range m.Imports {
		if _, there := known[x.Own]; there || !j.isImport(m, x) {
			return false
		}
		known[x.Own] = -1
		imports = append(imports, x.Own)
	}
	return j.isProgram(m.P, imports...)
}

// isImport reports whether a module can import something, if it has nothing else with this symbol.
// The name of Own need not be one: what no term has, no goal calls, so such an import changes nothing.
func (j joint) isImport(m api.Module, x api.Import) bool {
	return x.Module != m.Name && j.exports[exported{x.Module, x.From}] && x.Own.Arity == x.From.Arity && !j.reserved(x.Own)
}

// joinedSymbol returns the symbol that a procedure of a module has in the joined program.
func joinedSymbol(module string, s api.Symbol) api.Symbol {
	return api.Symbol{Name: module + ":" + s.Name, Arity: s.Arity}
}

// called returns the symbols that what a module can call has in the joined program.
func called(m api.Module) map[api.Symbol]api.Symbol {
	out := map[api.Symbol]api.Symbol{}
	for _, x := range m.P.Procs {
		out[symbolOfProc(x)] = joinedSymbol(m.Name, symbolOfProc(x))
	}
	for _, x := range m.Imports {
		out[x.Own] = joinedSymbol(x.Module, x.From)
	}
	return out
}

// procs returns the procedures of a module as they are in the joined program.
func (j joint) procs(m api.Module) []api.Proc {
	symbols := called(m)
	inBody := func(t api.Term) api.Term { return j.renamed(t, symbols) }
	inClause := func(c api.Clause) api.Clause {
		out := copyClause(c)
		out.Body = copyEach(out.Body, inBody)
		return out
	}
	return copyEach(m.P.Procs, func(x api.Proc) api.Proc {
		s := symbols[symbolOfProc(x)]
		return api.Proc{Name: s.Name, Arity: s.Arity, Clauses: copyEach(x.Clauses, inClause)}
	})
}

// renamed returns a goal that calls the same by another symbol.
func (j joint) renamed(t api.Term, symbols map[api.Symbol]api.Symbol) api.Term {
	s, is := j.call(t)
	if !is {
		return t
	}
	if isPrior(t) {
		return structure(t.S, j.renamed(t.L[0], symbols), t.L[1])
	}
	return structure(symbols[s].Name, t.L...)
}

// Join returns the program that modules are together.
func Join(l []api.Module) (api.Program, api.Errno) {
	j, is := newJoint(l)
	if !is {
		return api.Program{}, api.ErrModule
	}
	for _, m := range l {
		if !j.isModule(m) {
			return api.Program{}, api.ErrModule
		}
	}
	var out api.Program
	for _, m := range l {
		out.Procs = append(out.Procs, j.procs(m)...)
	}
	if !j.isProgram(out) {
		return api.Program{}, api.ErrLimit
	}
	return out, api.OK
}
