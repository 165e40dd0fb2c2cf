package prog_test

import (
	"slices"
	"strings"
	"testing"

	"riparian/api"
	"riparian/prog"
)

// module is a module.
func module(name string, exports []api.Symbol, imports []api.Import, p api.Program) api.Module {
	return api.Module{Name: name, Exports: exports, Imports: imports, P: p}
}

// symbols are symbols, written as a/1 b/2.
func symbols(text string) []api.Symbol {
	var out []api.Symbol
	for _, s := range strings.Fields(text) {
		name, arity, _ := strings.Cut(s, "/")
		out = append(out, symbol(name, strings.Index("0123456789", arity)))
	}
	return out
}

// imports are imports, each written as own/1=module:from/1.
func imports(text string) []api.Import {
	var out []api.Import
	for _, s := range strings.Fields(text) {
		own, of, _ := strings.Cut(s, "=")
		name, from, _ := strings.Cut(of, ":")
		out = append(out, api.Import{Own: symbols(own)[0], Module: name, From: symbols(from)[0]})
	}
	return out
}

// two are the modules of the example.
func two() []api.Module {
	return []api.Module{
		module("m", nil, imports("q/0=n:r/0"), procs(proc("p", 0, clause("", "", "q")))),
		module("n", symbols("r/0"), nil, procs(proc("r", 0))),
	}
}

// TestP4_6_Join: procedures are named by their modules, calls by what they call.
func TestP4_6_Join(t *testing.T) {
	body := "true, p(X), q(f(X)) @ 3, r(p(X)), X = q(1), out(X, p), out(X, Y) @ 0, wait(X), q(1) @ 15, true @ 2, X := q(2)"
	for name, x := range map[string]struct {
		l    []api.Module
		want api.Program
	}{
		"none":         {nil, api.Program{}},
		"the example":  {two(), procs(proc("m:p", 0, clause("", "", "'n:r'")), proc("n:r", 0))},
		"empty ones":   {[]api.Module{module("m", nil, nil, api.Program{}), module("n", nil, nil, api.Program{})}, api.Program{}},
		"import alone": {[]api.Module{module("m", nil, imports("q/0=n:r/0"), api.Program{}), two()[1]}, procs(proc("n:r", 0))},
		"all goals": {[]api.Module{
			module("m", symbols("p/1"), imports("r/1=n:r/1 out/2=n:p/2 wait/1=n:q/1"), procs(
				proc("p", 1, marked(api.MarkElse, clause("X", "wait(X), X == p(X)", body)), clause("p(Y)", "", "")),
				proc("q", 1, marked(api.MarkLate, clause("q(X)", "", "q(Y)"))))),
			module("n", symbols("q/1 p/2 r/1"), imports("up/1=m:p/1"), procs(proc("p", 2, clause("X, Y", "", "up(X), p(Y, X)")), proc("q", 1), proc("r", 1, clause("X", "", "up(X) @ 1")))),
		}, procs(
			proc("m:p", 1, marked(api.MarkElse, clause("X", "wait(X), X == p(X)", "true, 'm:p'(X), 'm:q'(f(X)) @ 3, 'n:r'(p(X)), X = q(1), 'n:p'(X, p), 'n:p'(X, Y) @ 0, 'n:q'(X), 'm:q'(1) @ 15, true @ 2, X := q(2)")), clause("p(Y)", "", "")),
			proc("m:q", 1, marked(api.MarkLate, clause("q(X)", "", "'m:q'(Y)"))),
			proc("n:p", 2, clause("X, Y", "", "'m:p'(X), 'n:p'(Y, X)")), proc("n:q", 1), proc("n:r", 1, clause("X", "", "'m:p'(X) @ 1")),
		)},
		"the same name in both": {[]api.Module{
			module("a", symbols("p/0 p/1"), imports("q/0=b:p/0 q/1=b:p/1"), procs(proc("p", 0, clause("", "", "q, p")), proc("p", 1, clause("X", "", "q(X), p(X)")))),
			module("b", symbols("p/1 p/0"), imports("q/0=a:p/0 r/1=a:p/1 s/1=a:p/1"), procs(proc("p", 0, clause("", "", "q, p")), proc("p", 1, clause("X", "", "r(X), p(X), s(X)")))),
		}, procs(
			proc("a:p", 0, clause("", "", "'b:p', 'a:p'")), proc("a:p", 1, clause("X", "", "'b:p'(X), 'a:p'(X)")),
			proc("b:p", 0, clause("", "", "'a:p', 'b:p'")), proc("b:p", 1, clause("X", "", "'a:p'(X), 'b:p'(X), 'a:p'(X)")),
		)},
		"odd names": {[]api.Module{
			module("true", symbols("a:b/0"), imports("c:d/0==:e:/0"), procs(proc("a:b", 0, clause("", "", "'c:d', 'a:b'")))),
			module("=", symbols("e:/0"), nil, procs(proc("=", 1), proc("e:", 0))),
		}, procs(proc("true:a:b", 0, clause("", "", "'=:e:', 'true:a:b'")), proc("=:=", 1), proc("=:e:", 0))},
	} {
		got, e := prog.Join(x.l)
		wantProgram(t, name, got, e, x.want)
	}
}

// TestP4_6_JoinWrong: modules with one thing each that modules have not.
func TestP4_6_JoinWrong(t *testing.T) {
	changed := func(change func(m, n *api.Module)) []api.Module {
		l := two()
		change(&l[0], &l[1])
		return l
	}
	wrong := map[string][]api.Module{
		"the same name":             changed(func(m, n *api.Module) { m.Imports, m.P, n.Name = nil, api.Program{}, "m" }),
		"no name":                   changed(func(m, n *api.Module) { m.Name = "" }),
		"a colon":                   changed(func(m, n *api.Module) { m.Name = "m:m" }),
		"a colon alone":             changed(func(m, n *api.Module) { m.Name = ":" }),
		"a line feed":               changed(func(m, n *api.Module) { m.Name = "m\n" }),
		"33 bytes":                  changed(func(m, n *api.Module) { m.Name = strings.Repeat("m", 33) }),
		"exports what it has not":   changed(func(m, n *api.Module) { n.Exports = symbols("r/0 s/0") }),
		"exports another arity":     changed(func(m, n *api.Module) { n.Exports = symbols("r/0 r/1") }),
		"exports an import":         changed(func(m, n *api.Module) { m.Exports = symbols("q/0") }),
		"exports twice":             changed(func(m, n *api.Module) { n.Exports = symbols("r/0 r/0") }),
		"imports twice":             changed(func(m, n *api.Module) { m.Imports = imports("q/0=n:r/0 q/0=n:r/0") }),
		"imports what it has":       changed(func(m, n *api.Module) { m.Imports = imports("q/0=n:r/0 p/0=n:r/0") }),
		"imports by a reserved one": changed(func(m, n *api.Module) { m.Imports = imports("q/0=n:r/0 true/0=n:r/0") }),
		"no such module":            changed(func(m, n *api.Module) { m.Imports[0].Module = "o" }),
		"no module":                 changed(func(m, n *api.Module) { m.Imports[0].Module = "" }),
		"imports what is not there": changed(func(m, n *api.Module) { m.Imports[0].From.Name = "s" }),
		"imports no export":         changed(func(m, n *api.Module) { n.Exports = nil }),
		"another arity from":        changed(func(m, n *api.Module) { m.Imports[0].From.Arity = 1 }),
		"another arity own": changed(func(m, n *api.Module) {
			m.Imports[0].Own.Arity, m.P = 1, program(t, "p :- p.")
		}),
		"imports from itself": changed(func(m, n *api.Module) {
			m.Imports[0].Module, m.Imports[0].From, m.Exports = "m", symbol("p", 0), symbols("p/0")
		}),
		"calls what is not there":             changed(func(m, n *api.Module) { m.P = procs(proc("p", 0, clause("", "", "q, s"))) }),
		"calls what is not imported":          changed(func(m, n *api.Module) { m.Imports = nil }),
		"calls another module's by its name":  changed(func(m, n *api.Module) { m.P = procs(proc("p", 0, clause("", "", "r"))) }),
		"calls another module's by both":      changed(func(m, n *api.Module) { m.P = procs(proc("p", 0, clause("", "", "'n:r'"))) }),
		"calls what another module imports":   changed(func(m, n *api.Module) { n.P = procs(proc("r", 0, clause("", "", "q"))) }),
		"calls an import with other arity":    changed(func(m, n *api.Module) { m.P = procs(proc("p", 0, clause("", "", "q(X)"))) }),
		"more than 16":                        nil,
		"a wrong program behind a name of 32": {module(strings.Repeat("m", 32), nil, nil, procs(proc("p", 0))), module("n", nil, nil, procs(proc("p", 17)))},
	}
	for i := range 17 {
		wrong["more than 16"] = append(wrong["more than 16"], module(string(rune('a'+i)), nil, nil, api.Program{}))
	}
	for name, p := range badPrograms() {
		wrong["program: "+name] = changed(func(m, n *api.Module) { n.P.Procs = append(n.P.Procs, p.Procs...) })
	}
	for name, l := range wrong {
		got, e := prog.Join(l)
		wantNoProgram(t, name, got, e, api.ErrModule)
		slices.Reverse(l)
		got, e = prog.Join(l)
		wantNoProgram(t, name+", turned", got, e, api.ErrModule)
	}
	got, e := prog.Join(wrong["more than 16"][:16])
	wantProgram(t, "16", got, e, api.Program{})
}

// TestP4_6_JoinLimits: names that become too long, and procedures that become too many.
func TestP4_6_JoinLimits(t *testing.T) {
	long := func(m, p int) []api.Module {
		return []api.Module{module(strings.Repeat("m", m), nil, nil, procs(proc(strings.Repeat("p", p), 0)))}
	}
	for _, n := range [][2]int{{1, 30}, {15, 16}, {30, 1}} {
		got, e := prog.Join(long(n[0], n[1]))
		want(t, "32 bytes", len(got.Procs) == 1 && e == api.OK, true)
		got, e = prog.Join(long(n[0]+1, n[1]))
		wantNoProgram(t, "33 bytes", got, e, api.ErrLimit)
		got, e = prog.Join(long(n[0], n[1]+1))
		wantNoProgram(t, "33 bytes", got, e, api.ErrLimit)
	}
	got, e := prog.Join([]api.Module{module(strings.Repeat("m", 32), nil, nil, api.Program{})})
	wantProgram(t, "a long name alone", got, e, api.Program{})
	half := []api.Module{module("m", nil, nil, many(32)), module("n", nil, nil, many(32))}
	got, e = prog.Join(half)
	want(t, "64 procedures", len(got.Procs) == 64 && e == api.OK, true)
	got, e = prog.Join(append(half, module("o", nil, nil, many(1))))
	wantNoProgram(t, "65 procedures", got, e, api.ErrLimit)
	got, e = prog.Join([]api.Module{module("m", nil, nil, many(64)), module("n", nil, nil, many(64))})
	wantNoProgram(t, "128 procedures", got, e, api.ErrLimit)
	// An import that is called can have any name that a procedure can have.
	l := two()
	l[0].Imports[0].Own.Name = strings.Repeat("q", 32)
	l[0].P = procs(proc("p", 0, clause("", "", strings.Repeat("q", 32))))
	got, e = prog.Join(l)
	wantProgram(t, "an import of 32 bytes", got, e, procs(proc("m:p", 0, clause("", "", "'n:r'")), proc("n:r", 0)))
}

// noNames are strings that are no names.
func noNames() []string {
	return []string{"", "\x00", "q\n", "\x1f", "\x7f", "\xff", strings.Repeat("q", 33), strings.Repeat("q", 100000)}
}

// three are modules of which the first one imports r/0 of the second one by a name, which no goal calls.
func three(own string) []api.Module {
	return []api.Module{
		module("m", symbols("p/0"), []api.Import{{Own: symbol(own, 0), Module: "n", From: symbol("r", 0)}}, procs(proc("p", 0, clause("", "", "p")))),
		module("n", symbols("r/0 s/1"), nil, procs(proc("r", 0), proc("s", 1), proc("t", 0))),
		module("o", symbols("r/0"), imports("q/1=n:s/1"), procs(proc("r", 0), proc("p", 0, clause("", "", "q(r)")))),
	}
}

// TestP4_6_JoinOwn: that by which a module imports something need not be a name; without a goal that calls it, it changes nothing.
func TestP4_6_JoinOwn(t *testing.T) {
	joined := procs(proc("m:p", 0, clause("", "", "'m:p'")), proc("n:r", 0), proc("n:s", 1), proc("n:t", 0), proc("o:r", 0), proc("o:p", 0, clause("", "", "'n:s'(r)")))
	all := three("q")
	for _, name := range append(noNames(), "q", strings.Repeat("q", 32), "q:", " ", "~") {
		got, e := prog.Join(three(name))
		wantProgram(t, "alone", got, e, joined)
		l := three(name)
		l[0].Imports = append(l[0].Imports, api.Import{Own: symbol(name, 1), Module: "n", From: symbol("s", 1)})
		got, e = prog.Join(l)
		wantProgram(t, "with two arities", got, e, joined)
		l = three("q")
		l[2].Imports = append(l[2].Imports, three(name)[0].Imports...)
		got, e = prog.Join(l)
		wantProgram(t, "behind one that is called", got, e, joined)
		if name != "q" {
			all[0].Imports = append(all[0].Imports, three(name)[0].Imports...)
		}
	}
	got, e := prog.Join(all)
	wantProgram(t, "all", got, e, joined)
}

// TestP4_6_JoinOwnWrong: all else that is asked of an import is asked of one by what is no name, too.
func TestP4_6_JoinOwnWrong(t *testing.T) {
	for _, name := range noNames() {
		own := symbol(name, 0)
		for what, change := range map[string]func(m *api.Module){
			"twice": func(m *api.Module) { m.Imports = append(m.Imports, m.Imports[0]) },
			"twice, from two": func(m *api.Module) {
				m.Imports = append(m.Imports, api.Import{Own: own, Module: "o", From: symbol("r", 0)})
			},
			"arity of own":  func(m *api.Module) { m.Imports[0].Own.Arity = 1 },
			"arity of from": func(m *api.Module) { m.Imports[0].From = symbol("s", 1) },
			"no export":     func(m *api.Module) { m.Imports[0].From.Name = "t" },
			"no module":     func(m *api.Module) { m.Imports[0].Module = "k" },
			"itself": func(m *api.Module) {
				m.Imports[0].Module, m.Imports[0].From = "m", symbol("p", 0)
			},
			"is called": func(m *api.Module) { m.P = procs(proc("p", 0, api.Clause{Body: []api.Term{atom(name)}})) },
			"is called with a priority": func(m *api.Module) {
				m.P = procs(proc("p", 0, api.Clause{Body: []api.Term{fun("@", atom(name), integer(1))}}))
			},
			"is a procedure": func(m *api.Module) { m.P.Procs = append(m.P.Procs, proc(name, 0)) },
		} {
			l := three(name)
			change(&l[0])
			got, e := prog.Join(l)
			wantNoProgram(t, what, got, e, api.ErrModule)
			slices.Reverse(l)
			got, e = prog.Join(l)
			wantNoProgram(t, what+", turned", got, e, api.ErrModule)
		}
	}
}
