package prog_test

import (
	"slices"
	"testing"

	"riparian/api"
	"riparian/prog"
)

// network is a program whose procedures call these ones, and nothing else.
func network(calls ...[]int) api.Program {
	out := many(len(calls))
	for i, l := range calls {
		for _, j := range l {
			out.Procs[i].Clauses = append(out.Procs[i].Clauses, api.Clause{Body: []api.Term{yes, atom(out.Procs[j].Name)}})
		}
	}
	return out
}

func wantLists(t *testing.T, name string, got [][]int, e api.Errno, wanted ...[]int) {
	t.Helper()
	if e != api.OK || !slices.EqualFunc(got, wanted, slices.Equal) {
		t.Errorf("%s: got %v, error %d, want %v", name, got, e, wanted)
	}
}

// calling is a program with calls of all sorts.
func calling(t *testing.T) api.Program {
	return program(t, `
		p(X) :- X > 0 | q(X) @ 3, p(X), X = q, Y := p(X), q.
		otherwise. p(X) :- r, vector_get(q, X, Y, Z).
		q(X) :- wait(X) | true.
		:- r/0.
		q :- r, r, q(1), r @ 0.
		s :- s.`)
}

// TestP4_3_Calls: what the bodies of the clauses call, each one once.
func TestP4_3_Calls(t *testing.T) {
	p := calling(t)
	for i, wanted := range [][]int{{0, 1, 2, 3}, nil, nil, {1, 2}, {4}} {
		got, e := prog.Calls(p, i)
		wantNumbers(t, p.Procs[i].Name, got, e, wanted...)
	}
	for _, proc := range []int{-1, 5, 64, 1 << 40} {
		got, e := prog.Calls(p, proc)
		want(t, "no procedure", len(got) == 0 && e == api.ErrArg, true)
		for name, w := range badPrograms() {
			got, e = prog.Calls(w, proc)
			want(t, name, len(got) == 0 && e == api.ErrProg, true)
		}
	}
	_, e := prog.Calls(api.Program{}, 0)
	want(t, "none", e, api.ErrArg)
	got, e := prog.Calls(network(make([][]int, 64)...), 63)
	wantNumbers(t, "the last one", got, e)
	all := make([][]int, 64)
	for i := range all {
		all[63] = append(all[63], 63-i)
	}
	all[63] = all[63][32:]
	got, e = prog.Calls(network(all...), 63)
	slices.Reverse(all[63])
	wantNumbers(t, "many", got, e, all[63]...)
}

// TestP4_3_Reach: what a query calls, and all that this calls.
func TestP4_3_Reach(t *testing.T) {
	p := calling(t)
	for goals, wanted := range map[string][]int{
		"": nil, "true, X = p(X)": nil, "r": {2}, "q": {1, 2, 3}, "p(X)": {0, 1, 2, 3}, "s, r @ 7": {2, 4}, "q(a), true": {1}, "s @ 1, p(1)": {0, 1, 2, 3, 4},
	} {
		got, e := prog.Reach(p, query(goals))
		wantNumbers(t, goals, got, e, wanted...)
	}
	for name, q := range badQueries() {
		got, e := prog.Reach(p, q)
		want(t, name, len(got) == 0 && e == api.ErrProg, true)
	}
	got, e := prog.Reach(p, query("nobody"))
	want(t, "no such procedure", len(got) == 0 && e == api.ErrProg, true)
	for name, w := range badPrograms() {
		got, e := prog.Reach(w, query(""))
		want(t, name, len(got) == 0 && e == api.ErrProg, true)
	}
	chained := make([][]int, 64)
	for i := range 63 {
		chained[63-i] = []int{62 - i}
	}
	got, e = prog.Reach(network(chained...), query("cl"))
	if e != api.OK || len(got) != 64 {
		t.Errorf("64 in a row: got %v, error %d", got, e)
	}
}

// TestP4_3_Components: what calls each other, behind all others that it calls.
func TestP4_3_Components(t *testing.T) {
	for name, x := range map[string]struct {
		calls [][]int
		want  [][]int
	}{
		"none":                    {nil, nil},
		"alone":                   {[][]int{nil}, [][]int{{0}}},
		"calls itself":            {[][]int{{0}}, [][]int{{0}}},
		"no calls":                {make([][]int, 3), [][]int{{0}, {1}, {2}}},
		"the example":             {[][]int{{1, 2}, {0}, {2}}, [][]int{{2}, {0, 1}}},
		"in a row":                {[][]int{{1}, {2}, nil}, [][]int{{2}, {1}, {0}}},
		"in a row, called first":  {[][]int{nil, {0}, {1}}, [][]int{{0}, {1}, {2}}},
		"a circle":                {[][]int{{1}, {2}, {0}}, [][]int{{0, 1, 2}}},
		"two circles":             {[][]int{{2}, {3}, {0}, {1, 0}}, [][]int{{0, 2}, {1, 3}}},
		"two circles, turned":     {[][]int{{2, 1}, {3}, {0}, {1}}, [][]int{{1, 3}, {0, 2}}},
		"two that meet":           {[][]int{{1, 2}, {0}, {0}}, [][]int{{0, 1, 2}}},
		"the least one that can":  {[][]int{{4}, nil, {1}, {1}, nil}, [][]int{{1}, {2}, {3}, {4}, {0}}},
		"the least one of its":    {[][]int{{5}, {4}, {3}, {2}, {1}, nil}, [][]int{{1, 4}, {2, 3}, {5}, {0}}},
		"not the least one ahead": {[][]int{{3}, {2}, {1, 3}, nil}, [][]int{{3}, {0}, {1, 2}}},
		"not in the order found":  {[][]int{nil, {3}, nil, nil, {0}}, [][]int{{0}, {2}, {3}, {1}, {4}}},
		"called through others":   {[][]int{{3, 1}, {2}, {0, 4}, nil, {3}}, [][]int{{3}, {4}, {0, 1, 2}}},
	} {
		got, e := prog.Components(network(x.calls...))
		wantLists(t, name, got, e, x.want...)
	}
	got, e := prog.Components(calling(t))
	wantLists(t, "calls of all sorts", got, e, []int{1}, []int{2}, []int{3}, []int{0}, []int{4})
	for name, w := range badPrograms() {
		got, e := prog.Components(w)
		want(t, name, len(got) == 0 && e == api.ErrProg, true)
	}
}

// TestP4_3_Trim: the procedures to which a query comes, in order, as they are.
func TestP4_3_Trim(t *testing.T) {
	p := calling(t)
	p.Procs[3].Clauses[0].Mark = api.MarkLate
	for goals, wanted := range map[string][]int{"": nil, "r": {2}, "q": {1, 2, 3}, "s, r @ 7": {2, 4}, "s @ 1, p(1)": {0, 1, 2, 3, 4}} {
		var left api.Program
		for _, i := range wanted {
			left.Procs = append(left.Procs, p.Procs[i])
		}
		got, e := prog.Trim(p, query(goals))
		wantProgram(t, goals, got, e, left)
	}
	for name, q := range badQueries() {
		got, e := prog.Trim(p, q)
		wantNoProgram(t, name, got, e, api.ErrProg)
	}
	for name, w := range badPrograms() {
		got, e := prog.Trim(w, query(""))
		wantNoProgram(t, name, got, e, api.ErrProg)
	}
}
