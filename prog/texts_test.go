package prog_test

import (
	"slices"
	"strings"
	"testing"

	"riparian/api"
	"riparian/prog"
)

func wantTerms(t *testing.T, name string, got []api.Term, e api.Errno, wanted ...api.Term) {
	t.Helper()
	if e != api.OK || !equalAll(got, wanted) {
		t.Errorf("%s: got %v, error %d, want %v", name, got, e, wanted)
	}
}

// TestP4_5_Terms: declarations, marks, and clauses.
func TestP4_5_Terms(t *testing.T) {
	for text, p := range map[string]api.Program{
		"":                             {},
		":- p / 0.":                    procs(proc("p", 0)),
		":- 'P q' / 16. :- '[]' / 0.":  procs(proc("P q", 16), proc("[]", 0)),
		":- p / 0. p.":                 procs(proc("p", 0, clause("", "", ""))),
		":- p / 1. p(X). :- q / 0. q.": procs(proc("p", 1, clause("X", "", "")), proc("q", 0, clause("", "", ""))),
		":- p / 0. :- q / 0. q :- p.":  procs(proc("p", 0), proc("q", 0, clause("", "", "p"))),
		":- p / 1. p(X) :- X > 0 | p(X), (X = Y, p(Y) @ 3).":                                           procs(proc("p", 1, clause("X", "X > 0", "p(X), X = Y, p(Y) @ 3"))),
		":- p / 2. p(f(X), {Y}) :- (wait(X), (X > Y, Y == X)) | true.":                                 procs(proc("p", 2, clause("f(X), {Y}", "wait(X), X > Y, Y == X", ""))),
		":- p / 0. otherwise. p. p. alternatively. p :- p. otherwise. p.":                              procs(proc("p", 0, marked(api.MarkElse, clause("", "", "")), clause("", "", ""), marked(api.MarkLate, clause("", "", "p")), marked(api.MarkElse, clause("", "", "")))),
		":- append / 3. append([], Y, Z) :- Z = Y. append([A|X], Y, Z) :- Z = [A|W], append(X, Y, W).": procs(proc("append", 3, clause("[], Y, Z", "", "Z = Y"), clause("[A|X], Y, Z", "", "Z = [A|W], append(X, Y, W)"))),
		":- otherwise / 1. otherwise(1). :- '=' / 1. =(X).":                                            procs(proc("otherwise", 1, clause("1", "", "")), proc("=", 1, clause("X", "", ""))),
	} {
		check(t, p)
		got, e := prog.Terms(p)
		wantTerms(t, text, got, e, lines(text)...)
	}
	sixteenArguments := procs(proc("p", 16, api.Clause{Head: sixteen()}))
	got, e := prog.Terms(sixteenArguments)
	wantTerms(t, "16 arguments", got, e, of(":- p / 16"), fun("p", sixteen()...))
	for name, w := range badPrograms() {
		got, e := prog.Terms(w)
		want(t, name, len(got) == 0 && e == api.ErrProg, true)
	}
}

// TestP4_5_TermsTrue: a goal true, and a test true, are left out, also where nothing else is left; one with a priority is not.
func TestP4_5_TermsTrue(t *testing.T) {
	for _, c := range []struct {
		of   api.Clause
		text string
	}{
		{clause("X", "", "true"), "p(X)"},
		{clause("X", "", "true, true"), "p(X)"},
		{clause("X", "", "true, p(X)"), "p(X) :- p(X)"},
		{clause("X", "", "true, p(X), true, p(1), true"), "p(X) :- p(X), p(1)"},
		{clause("X", "true", ""), "p(X)"},
		{clause("X", "true, true", "true"), "p(X)"},
		{clause("X", "true", "p(X)"), "p(X) :- p(X)"},
		{clause("X", "true, true", "true, p(X)"), "p(X) :- p(X)"},
		{clause("X", "X > 0", ""), "p(X) :- X > 0 | true"},
		{clause("X", "true, X > 0", "true"), "p(X) :- X > 0 | true"},
		{clause("X", "wait(X), true, X > 0", "p(X), p(2), true"), "p(X) :- wait(X), X > 0 | p(X), p(2)"},
		{clause("X", "", "true @ 3"), "p(X) :- true @ 3"},
		{clause("X", "true", "true, true @ 0, p(X) @ 0"), "p(X) :- true @ 0, p(X) @ 0"},
		{clause("true", "wait(true)", "true = true"), "p(true) :- wait(true) | true = true"},
		{clause("true", "true", "true"), "p(true)"},
	} {
		p := procs(proc("p", 1, c.of))
		check(t, p)
		got, e := prog.Terms(p)
		wantTerms(t, c.text, got, e, of(":- p / 1"), of(c.text))
	}
	for text, c := range map[string]api.Clause{"p": clause("", "true", "true"), "p :- p": clause("", "true", "p, true")} {
		got, e := prog.Terms(procs(proc("p", 0, marked(api.MarkLate, c))))
		wantTerms(t, text, got, e, of(":- p / 0"), of("alternatively"), of(text))
	}
}

// TestP4_5_Program: what terms are read as.
func TestP4_5_Program(t *testing.T) {
	empty := clause("", "", "")
	for text, wanted := range map[string]api.Program{
		"":                         {},
		":- p / 3.":                procs(proc("p", 3)),
		":- p / 0. :- p / 16.":     procs(proc("p", 0), proc("p", 16)),
		":- '/' / 2. X / Y.":       procs(proc("/", 2, clause("X, Y", "", ""))),
		"p.":                       procs(proc("p", 0, empty)),
		"p. p. q. ":                procs(proc("p", 0, empty, empty), proc("q", 0, empty)),
		":- p / 0. p. :- q / 0.":   procs(proc("p", 0, empty), proc("q", 0)),
		":- p / 0. q. :- r / 1.":   procs(proc("p", 0), proc("q", 0, empty), proc("r", 1)),
		"p(X). p.":                 procs(proc("p", 1, clause("X", "", "")), proc("p", 0, empty)),
		"p :- true.":               procs(proc("p", 0, empty)),
		"p :- true | true.":        procs(proc("p", 0, empty)),
		"p :- true, (true, true).": procs(proc("p", 0, empty)),
		"p :- true | p, true.":     procs(proc("p", 0, clause("", "", "p"))),
		"p :- (true, p), ((p, true), (q, p)). q.":           procs(proc("p", 0, clause("", "", "p, p, q, p")), proc("q", 0, empty)),
		"p :- true @ 2, p @ 1.":                             procs(proc("p", 0, clause("", "", "true @ 2, p @ 1"))),
		"p(X) :- (wait(X), true), (X > 1, X > 2) | true.":   procs(proc("p", 1, clause("X", "wait(X), X > 1, X > 2", ""))),
		"p(X) :- X > 0 | q(X). otherwise. p(X). q(Z).":      procs(proc("p", 1, clause("X", "X > 0", "q(X)"), marked(api.MarkElse, clause("X", "", ""))), proc("q", 1, clause("X", "", ""))),
		"otherwise. p. alternatively. q. alternatively. q.": procs(proc("p", 0, marked(api.MarkElse, empty)), proc("q", 0, marked(api.MarkLate, empty), marked(api.MarkLate, empty))),
		"p(Y, f(X)) :- X > Y | Z = W, p(W, X).":             procs(proc("p", 2, clause("X, f(Y)", "Y > X", "Z = W, p(W, Y)"))),
		"[X|Y]. '|'(1). ','(1, 2, 3). true(X).":             procs(proc(".", 2, clause("X, Y", "", "")), proc("|", 1, clause("1", "", "")), proc(",", 3, clause("1, 2, 3", "", "")), proc("true", 1, clause("X", "", ""))),
		"wait(X) :- wait(X) | wait(X), X < 1. X < Y.":       procs(proc("wait", 1, clause("X", "wait(X)", "wait(X), X < 1")), proc("<", 2, clause("X, Y", "", ""))),
	} {
		check(t, wanted)
		got, at, e := prog.Program(lines(text))
		wantProgram(t, text, got, e, wanted)
		want(t, text, at, 0)
	}
	// Variables are those of one term each, whatever their numbers.
	got, at, e := prog.Program([]api.Term{fun("p", variable(99999), z), fun("p", z, variable(99999)), fun(":-", fun("p", y, x), fun("=", z, x))})
	wantProgram(t, "other variables", got, e, procs(proc("p", 2, clause("X, Y", "", ""), clause("X, Y", "", ""), clause("X, Y", "", "Z = Y"))))
	want(t, "other variables", at, 0)
}

// wantNotRead wants an error of Program at an index, and nothing beside it.
func wantNotRead(t *testing.T, name string, l []api.Term, at int, wanted api.Errno) {
	t.Helper()
	got, index, e := prog.Program(l)
	if e != wanted || index != at || len(got.Procs) != 0 {
		t.Errorf("%s: got %d procedures, index %d, error %d, want index %d, error %d alone", name, len(got.Procs), index, e, at, wanted)
	}
}

// TestP4_5_ProgramWrong: the first term that is not as it should be.
func TestP4_5_ProgramWrong(t *testing.T) {
	for text, at := range map[string]int{
		// Terms that are no clauses.
		"X.": 0, "p. 1.": 1, "p. q. \"p\".": 2, "{}. p.": 0, "p. 1 :- p. 2.": 1, "X :- p. p.": 0, "p, q.": 0, "p | q.": 0, "p :- q, 1. q.": 0, "p :- X.": 0, "p(X) :- X.": 0, "p :- {}.": 0, "p :- otherwise.": 0, "p :- (p :- p).": 0, "p :- (:- p).": 0,
		"p :- (true | p | p).": 0, "p :- p, (true | p).": 0, "p(X) :- q(X) | p(X). q(X).": 0, "p(X) :- X = 1 | p(X).": 0, "p(X) :- X < a | true.": 0, "p(X) :- 1 | true.": 0, "p(X) :- true | 1.": 0, "p(X) :- X | true.": 0, "p(X) :- wait(X) @ 1 | true.": 0,
		"p :- p @ 16.": 0, "p @ 1.": 0, "p @ 1 :- p.": 0, "p. p(X) :- Y > 0 | p.": 1, "p(X) :- Y > 0 | Y = X.": 0, "(p :- p) :- p.": 0,
		// Symbols.
		"p. q. p.": 2, "p. q. :- p/0.": 2, "p. :- p/0.": 1, ":- p/0. :- p/0.": 1, ":- p/0. :- q/0. p.": 2, "p. q. r. q :- p.": 3, "p(X). p. p(X).": 2,
		"true.": 0, "true :- p. p.": 0, "X = Y.": 0, "p. X := Y :- p.": 1, ":- true/0.": 0, ":- '='/2.": 0, ":- '@'/2.": 0, ":- otherwise/0.": 0, "p. :- ','/2.": 1, ":- ':-'/1.": 0, "vector_new(X, Y).": 0, "string_join(X, Y, Z) :- true.": 0,
		// Declarations.
		":- p.": 0, ":- 1.": 0, ":- X.": 0, ":- p/X.": 0, ":- X/1.": 0, ":- 1/1.": 0, ":- \"p\"/1.": 0, ":- p/(-1).": 0, ":- p/17.": 0, ":- p/a.": 0, ":- p(X)/1.": 0, ":- p/1/1.": 0, ":- p - 1.": 0, ":- (p/1, q/1).": 0, "p. :- '/'(p, 1, 1).": 1, "p. :- (:- p/1).": 1,
		// Marks.
		"otherwise.": 0, "p. otherwise.": 1, "p. alternatively.": 1, "p. otherwise. otherwise.": 2, "otherwise. alternatively. p.": 1, "alternatively. otherwise.": 1, "otherwise. p. alternatively. alternatively. p.": 3, "p. otherwise. :- q/0. q.": 2, "alternatively. :- p/0.": 1, "otherwise. 1.": 1, "otherwise. :- 1.": 1,
		"otherwise :- p.": 0, "p :- alternatively.": 0, "p. otherwise, p.": 1,
		// The first one that is wrong, behind calls that are.
		"p :- q. 1.": 1, "p :- q. p :- r. otherwise.": 2,
	} {
		wantNotRead(t, text, lines(text), at, api.ErrClause)
	}
	wantNotRead(t, "a string as a mark", []api.Term{str("otherwise"), atom("p")}, 0, api.ErrClause)
	for _, text := range []string{"p :- q.", "p :- p(1).", "p. q :- p, r.", "p(X) :- p(X), q @ 3. :- q/1.", ":- p/1. q :- p.", "p :- wait(1)."} {
		wantNotRead(t, text, lines(text), 0, api.ErrProg)
	}
	for i, w := range badTerms() {
		wantNotRead(t, "no term", []api.Term{w}, 0, api.ErrTerm)
		wantNotRead(t, "no term within", []api.Term{atom("p"), atom("p"), fun("p", w), w}, 2, api.ErrTerm)
		wantNotRead(t, "no term behind a wrong one", []api.Term{of("1"), w, of("2")}, 1, api.ErrTerm)
		wantNotRead(t, "no term behind marks", []api.Term{of("p :- q"), of("otherwise"), of("otherwise"), w, badTerms()[0]}, 3, api.ErrTerm)
		if i == 0 {
			wantNotRead(t, "no term in a goal", []api.Term{fun(":-", fun("p", x), fun("q", w))}, 0, api.ErrTerm)
		}
	}
}

// TestP4_5_ProgramLimits: as many procedures and clauses, and as large ones, as programs can have.
func TestP4_5_ProgramLimits(t *testing.T) {
	var declared, headed []api.Term
	for _, x := range many(65).Procs {
		declared = append(declared, fun(":-", fun("/", atom(x.Name), integer(0))))
		headed = append(headed, atom(x.Name))
	}
	for _, l := range [][]api.Term{declared, headed} {
		_, at, e := prog.Program(l[:64])
		want(t, "64 procedures", at == 0 && e == api.OK, true)
		wantNotRead(t, "65 procedures", append(slices.Clone(l), integer(1)), 64, api.ErrClause)
	}
	clauses := slices.Repeat([]api.Term{atom("p")}, 33)
	_, at, e := prog.Program(clauses[:32])
	want(t, "32 clauses", at == 0 && e == api.OK, true)
	wantNotRead(t, "33 clauses", clauses, 32, api.ErrClause)
	wantNotRead(t, "33 clauses and marks", append([]api.Term{atom("otherwise")}, append(clauses, integer(1))...), 33, api.ErrClause)
	for name, c := range goodClauses() {
		p := procs(proc("p", 1, c))
		l, e := prog.Terms(p)
		want(t, name, e, api.OK)
		got, at, e := prog.Program(l)
		want(t, name, at == 0 && e == api.OK && prog.Check(got) == api.OK, true)
	}
	is := func(goals ...string) string { return strings.Join(goals, ", ") }
	for text, e := range map[string]api.Errno{
		"p :- " + is(slices.Repeat([]string{"p"}, 16)...) + ", true.":                api.OK,
		"p :- " + is(slices.Repeat([]string{"p"}, 17)...) + ".":                      api.ErrClause,
		"p(X) :- " + is(slices.Repeat([]string{"wait(X)"}, 8)...) + ", true | true.": api.OK,
		"p(X) :- " + is(slices.Repeat([]string{"wait(X)"}, 9)...) + " | true.":       api.ErrClause,
	} {
		_, _, got := prog.Program(lines(text))
		want(t, text, got, e)
	}
	body := func(goals ...api.Term) []api.Term {
		out := goals[0]
		for _, g := range goals[1:] {
			out = fun(",", out, g)
		}
		return []api.Term{fun(":-", a, out), of(":- p/7")}
	}
	_, _, e = prog.Program(body(yes, goalOf(400), yes))
	want(t, "400 nodes", e, api.OK)
	wantNotRead(t, "401 nodes", body(goalOf(401)), 0, api.ErrClause)
	_, _, e = prog.Program(body(manyVars(64).Goals...))
	want(t, "64 variables", e, api.OK)
	wantNotRead(t, "65 variables", body(manyVars(65).Goals...), 0, api.ErrClause)
	// Far more terms than fit in one term, if none of them is a part of a clause.
	wantNotRead(t, "many terms", slices.Repeat([]api.Term{of(":- p/1"), of("p(X)")}, 5000), 2, api.ErrClause)
}

// TestP4_5_QueryTerm: goals with commas between them.
func TestP4_5_QueryTerm(t *testing.T) {
	for goals, wanted := range map[string]string{
		"": "true", "true": "true", "p(X)": "p(X)", "p(X), q": "p(X), q", "p(X), q(Y), X = Y @ 3": "p(X), (q(Y), X = Y @ 3)", "X := 1, p, p, p": "X := 1, (p, (p, p))", "true, p": "true, p", "true @ 1, true": "true @ 1, true",
	} {
		got, e := prog.QueryTerm(query(goals))
		wantTerms(t, goals, []api.Term{got}, e, of(wanted))
	}
	got, e := prog.QueryTerm(manyVars(64))
	wantTerms(t, "64 variables", []api.Term{got}, e, manyVars(64).Goals...)
	for name, q := range badQueries() {
		got, e := prog.QueryTerm(q)
		want(t, name, equal(got, none) && e == api.ErrArg, true)
	}
}

// TestP4_5_Query: the goals of a term, with their variables numbered anew.
func TestP4_5_Query(t *testing.T) {
	for text, goals := range map[string]string{
		"true": "", "p": "p", "true, true": "", "p(X), q(Y, X)": "p(X), q(Y, X)", "((p, true), q), (r, (true, X = Y @ 3))": "p, q, r, X = Y @ 3", "true @ 2": "true @ 2", "X < Y": "X < Y",
		strings.Repeat("true, p, ", 15) + "p, true": strings.Repeat("p, ", 15) + "p",
	} {
		got, e := prog.Query(of(text))
		if e != api.OK || !equalQueries(got, query(goals)) {
			t.Errorf("%s: got %v, error %d, want %s", text, got, e, goals)
		}
	}
	got, e := prog.Query(fun(",", fun("p", variable(99999), y), fun("=", y, x)))
	if e != api.OK || !equalQueries(got, query("p(X, Y), Y = Z")) {
		t.Errorf("other variables: got %v, error %d", got, e)
	}
	wrong := []api.Term{goalOf(401), manyVars(65).Goals[0], fun("p", goalOf(1000), goalOf(1000))}
	for _, text := range []string{"X", "1", "p, X", "p, (q, 1)", "{}", "\"s\"", "p :- q", "p | q", "otherwise", "p, alternatively", "p @ 16", "(p, q) @ 1", ":- p/1", strings.Repeat("p, ", 16) + "p"} {
		wrong = append(wrong, of(text))
	}
	for i, w := range wrong {
		got, e := prog.Query(w)
		if e != api.ErrClause || !equalQueries(got, api.Query{}) {
			t.Errorf("%d: got %v, error %d", i, got, e)
		}
	}
	for i, w := range badTerms() {
		for _, x := range []api.Term{w, fun(",", integer(1), w), fun("p", w)} {
			got, e := prog.Query(x)
			if e != api.ErrTerm || !equalQueries(got, api.Query{}) {
				t.Errorf("bad term %d: got %v, error %d", i, got, e)
			}
		}
	}
	_, e = prog.Query(fun("=", vec(make([]api.Term, 4000)...), x))
	want(t, "far too many", e, api.ErrTerm)
	got, e = prog.Query(fun("p", goalOf(399)))
	want(t, "400 nodes", e, api.OK)
}
