package guard_test

import (
	"slices"
	"testing"

	"riparian/api"
)

// procs are procedures that the tests below share.
func procs() map[string]api.Proc {
	one, any, two := clause("1", "", ""), clause("A", "", ""), clause("2", "", "")
	small, big := clause("A", "A < 3", ""), clause("A", "A >= 3", "")
	return map[string]api.Proc{
		"none":       proc(1),
		"1 ; A, 2":   proc(1, one, orElse(any), two),
		"1, 2":       proc(1, one, two),
		"1 ; 2":      proc(1, one, orElse(two)),
		"; 1, 2":     proc(1, orElse(one), two),
		"1 late A":   proc(1, one, late(any)),
		"< ; >=":     proc(1, small, orElse(big)),
		"<, >=":      proc(1, small, big),
		"1 ; < ; A":  proc(1, one, orElse(small), orElse(any)),
		"A ; A":      proc(1, any, orElse(any)),
		"2 ; 1 ; A":  proc(1, two, orElse(one), orElse(any)),
		"2, 1 ; A":   proc(1, two, one, orElse(any)),
		"f(A) ; [A]": proc(1, clause("f(A)", "integer(A)", ""), orElse(clause("[A|B]", "", ""))),
	}
}

// TestP5_4_Open: which clauses can be taken, for X of which nothing is known, and others.
func TestP5_4_Open(t *testing.T) {
	for _, r := range []struct {
		proc, arg string
		want      reply
		answers   []int
	}{
		{"1 ; A, 2", "X", waits(0), []int{3, 1, 3}}, {"1 ; A, 2", "1", taken(0), []int{1, 1, 2}}, {"1 ; A, 2", "2", taken(1, 2), []int{2, 1, 1}}, {"1 ; A, 2", "3", taken(1), []int{2, 1, 2}},
		{"none", "X", no(), nil}, {"none", "1", no(), nil},
		{"1, 2", "X", waits(0), []int{3, 3}}, {"1, 2", "2", taken(1), []int{2, 1}}, {"1, 2", "3", no(), []int{2, 2}},
		{"1 ; 2", "X", waits(0), []int{3, 3}}, {"1 ; 2", "2", taken(1), []int{2, 1}}, {"1 ; 2", "1", taken(0), []int{1, 2}}, {"1 ; 2", "a", no(), []int{2, 2}},
		{"; 1, 2", "1", taken(0), []int{1, 2}}, {"; 1, 2", "2", taken(1), []int{2, 1}},
		{"1 late A", "X", taken(1), []int{3, 1}}, {"1 late A", "1", taken(0, 1), []int{1, 1}},
		{"< ; >=", "Y", taken(1), []int{2, 1}}, {"< ; >=", "1", taken(0), []int{1, 2}}, {"< ; >=", "X", waits(0), []int{3, 3}}, {"< ; >=", "a", no(), []int{2, 2}}, {"<, >=", "Y + 1", taken(1), []int{2, 1}},
		{"1 ; < ; A", "Y", taken(2), []int{2, 2, 1}}, {"1 ; < ; A", "2", taken(1), []int{2, 1, 1}}, {"1 ; < ; A", "X", waits(0), []int{3, 3, 1}}, {"1 ; < ; A", "1", taken(0), []int{1, 1, 1}}, {"1 ; < ; A", "a", taken(2), []int{2, 2, 1}},
		{"A ; A", "X", taken(0), []int{1, 1}}, {"2 ; 1 ; A", "1", taken(1), []int{2, 1, 1}}, {"2, 1 ; A", "1", taken(1), []int{2, 1, 1}}, {"2, 1 ; A", "X", waits(0), []int{3, 3, 1}},
		{"f(A) ; [A]", "f(X)", waits(0), []int{3, 2}}, {"f(A) ; [A]", "f(Z)", waits(2), []int{3, 2}}, {"f(A) ; [A]", "X", waits(0), []int{3, 3}}, {"f(A) ; [A]", "[X]", taken(1), []int{2, 1}},
	} {
		p := procs()[r.proc]
		wantReply(t, "Open of "+r.proc+" for "+r.arg, open(five(), terms(r.arg), p), r.want)
		wantReply(t, "Answers of "+r.proc+" for "+r.arg, answers(five(), terms(r.arg), p), reply{list: r.answers})
	}
	two := proc(2, clause("f(A), B", "A < 1, B < 1", ""), orElse(clause("A, f(B)", "wait(B)", "")), late(clause("A, A", "", "")))
	for _, r := range []struct {
		args string
		want reply
	}{
		{"X, Z", waits(0, 2)}, {"Z, X", waits(0, 2)}, {"f(X), 0", waits(0)}, {"f(X), a", no()}, {"f(X), f(Z)", waits(0, 2)}, {"f(X), f(X)", taken(2)}, {"f(0), f(X)", waits(0)}, {"f(Y), f(Y)", taken(1, 2)},
	} {
		wantReply(t, "Open for "+r.args, open(five(), terms(r.args), two), r.want)
	}
}

// TestP5_4_OwnVariables: a clause does not see the variables of those ahead.
func TestP5_4_OwnVariables(t *testing.T) {
	p := proc(2, clause("A, B", "A == B", ""), clause("A, B", "B == f(A)", ""), clause("f(A), B", "A == B", ""), clause("A, B", "A \\== B, A == a", ""), clause("f(A), A", "A == A", ""))
	s := store(6, "Y = f(X), U = a, V = f(a), W = f(f(X))")
	for _, r := range []struct {
		args    string
		want    reply
		answers []int
	}{
		{"X, X", taken(0), []int{1, 2, 3, 2, 3}}, {"X, Y", taken(1), []int{2, 1, 3, 3, 3}}, {"Y, X", taken(2, 4), []int{2, 2, 1, 2, 1}}, {"U, V", taken(1, 3), []int{2, 1, 2, 1, 2}}, {"V, U", taken(2, 4), []int{2, 2, 1, 2, 1}}, {"W, Y", taken(2, 4), []int{2, 2, 1, 2, 1}}, {"Z, V", waits(2), []int{3, 3, 3, 3, 3}}, {"V, Z", waits(2), []int{3, 3, 3, 2, 3}}, {"X, Z", waits(0, 2), []int{3, 3, 3, 3, 3}},
	} {
		wantReply(t, "Open for "+r.args, open(s, terms(r.args), p), r.want)
		wantReply(t, "Answers for "+r.args, answers(s, terms(r.args), p), reply{list: r.answers})
	}
}

// TestP5_4_Limit: all clauses are looked at, whichever can be taken.
func TestP5_4_Limit(t *testing.T) {
	s, one, other := towers(14, a, a)
	any, same := clause("A, B", "", ""), clause("A, B", "A == B", "")
	for _, p := range []api.Proc{proc(2, any, same), proc(2, same, any), proc(2, any, orElse(same)), proc(2, clause("A, A", "", "")), proc(2, any, late(clause("a, b", "", "")), orElse(clause("f(A), f(A)", "", "")), same)} {
		wantReply(t, "Open", open(s, []api.Term{one, other}, p), fails(api.ErrLimit))
		wantReply(t, "Answers", answers(s, []api.Term{one, other}, p), fails(api.ErrLimit))
	}
	s = unbound(1)
	s.B[0] = sum(api.MaxNodes)
	p := proc(1, clause("A", "", ""), orElse(clause("A", "1 + A > 0", "")))
	wantReply(t, "a number", open(s, []api.Term{x}, p), fails(api.ErrLimit))
	wantReply(t, "a number", answers(s, []api.Term{x}, p), fails(api.ErrLimit))
}

// TestP5_4_Errors: what is no procedure for the arguments, and which error comes first.
func TestP5_4_Errors(t *testing.T) {
	for name, call := range map[string]func(s api.Store, args []api.Term, p api.Proc) reply{"Open": open, "Answers": answers} {
		right := clause("A", "", "")
		for bad, s := range badStores() {
			wantReply(t, name+", "+bad, call(s, []api.Term{a}, proc(1, right)), fails(api.ErrStore))
			wantReply(t, name+", "+bad+", all wrong", call(s, []api.Term{none}, proc(2, api.Clause{})), fails(api.ErrStore))
		}
		s, large := unbound(3), unbound(api.MaxVar-api.MaxOwn+1)
		for _, bad := range badTerms() {
			wantReply(t, name+", no term", call(s, []api.Term{bad}, proc(1, right)), fails(api.ErrTerm))
			wantReply(t, name+", no term, two arguments", call(s, []api.Term{a, bad}, proc(1, right)), fails(api.ErrTerm))
		}
		wantReply(t, name+", a variable behind", call(s, []api.Term{variable(3)}, proc(1)), fails(api.ErrTerm))
		for _, arity := range []int{-1, 0, 2, 17} {
			wantReply(t, name+", another arity", call(s, []api.Term{a}, proc(arity, right)), fails(api.ErrArg))
			wantReply(t, name+", another arity, no clauses", call(large, []api.Term{a}, proc(arity)), fails(api.ErrArg))
			wantReply(t, name+", another arity, no clause", call(s, []api.Term{a}, proc(arity, api.Clause{})), fails(api.ErrArg))
		}
		many := slices.Repeat([]api.Clause{right}, api.MaxClauses+1)
		wantReply(t, name+", 33 clauses", call(s, []api.Term{a}, proc(1, many...)), fails(api.ErrArg))
		many[0] = api.Clause{}
		wantReply(t, name+", 33 clauses, no clause", call(large, []api.Term{a}, proc(1, many...)), fails(api.ErrArg))
		for bad, c := range badClauses() {
			wantReply(t, name+", "+bad, call(s, []api.Term{a}, proc(1, c)), fails(api.ErrClause))
			wantReply(t, name+", "+bad+" last", call(large, []api.Term{a}, proc(1, right, right, c)), fails(api.ErrClause))
		}
		seventeen := slices.Repeat([]api.Term{a}, 17)
		wantReply(t, name+", 17 arguments", call(s, seventeen, proc(17, api.Clause{Head: seventeen})), fails(api.ErrClause))
		wantReply(t, name+", a large store", call(large, []api.Term{a}, proc(1, right)), fails(api.ErrLimit))
		wantReply(t, name+", a large store, no clauses", call(large, []api.Term{a}, proc(1)), fails(api.ErrLimit))
	}
	s, all := unbound(3), make([]int, api.MaxClauses)
	for i := range all {
		all[i] = i
	}
	p := proc(1, slices.Repeat([]api.Clause{clause("A", "", "")}, api.MaxClauses)...)
	wantReply(t, "32 clauses", open(s, []api.Term{x}, p), taken(all...))
	seventeen := slices.Repeat([]api.Term{a}, 17)
	wantReply(t, "17 arguments, no clauses", open(s, seventeen, proc(17)), no())
	wantReply(t, "17 arguments, no clauses", answers(s, seventeen, proc(17)), reply{})
	large := unbound(api.MaxVar - api.MaxOwn)
	wantReply(t, "as large as can be", open(large, []api.Term{variable(len(large.B) - 1)}, proc(1, clause("A", "A == a", ""), clause("f(A)", "", ""))), waits(len(large.B)-1))
	nameless := proc(1, clause("A", "", "unknown(A), other"))
	nameless.Name = "\n"
	wantReply(t, "neither name nor calls matter", open(s, []api.Term{x}, nameless), taken(0))
}
