package read_test

import (
	"slices"
	"strings"
	"testing"

	"riparian/api"
	"riparian/read"
)

// lists returns where the lists within terms lie.
func lists(l []api.Term) []*api.Term {
	if len(l) == 0 {
		return nil
	}
	out := []*api.Term{&l[0]}
	for _, t := range l {
		out = append(out, lists(t.L)...)
	}
	return out
}

// TestR2_Memory: no two lists of results share memory, and arguments stay what they are.
func TestR2_Memory(t *testing.T) {
	seen := map[*api.Term]bool{}
	for range 2 {
		l, _, _ := read.Terms("f(X, [a, b | X], {c}, - Y). f(X, [a, b | X], {c}, - Y).")
		s, _, _, _ := read.Term("g(f(X), f(X), [[]], a + b)")
		for _, at := range lists(append(l, s)) {
			if seen[at] {
				t.Fatal("memory that is another one's")
			}
			seen[at] = true
		}
	}
	_, names, _, _ := read.Term("f(X, Y)")
	_, others, _, _ := read.Term("f(X, Y)")
	names[0] = "Z"
	want(t, "names", others[0], "X")
	l := lex(t, "a b")
	l[0].S = "c"
	want(t, "lexemes", lex(t, "a b")[0].S, "a")
	names = []string{"X", "Y"}
	terms := []api.Term{fun("f", fun("-", x), list(y, a)), fun("+", y, b)}
	before := slices.Clone(terms)
	first, _ := read.Show(terms[0], names)
	second, _ := read.Lines(terms)
	want(t, "Show", first, "f(-X,[a|Y])")
	want(t, "Lines", second, "f(-A,[a|B]).\nB+b.\n")
	if !equalAll(terms, before) || !slices.Equal(names, []string{"X", "Y"}) {
		t.Error("an argument was changed")
	}
}

// TestR1_Huge: calls end and do not panic where arguments are far too large, or nested as far as a text can be.
func TestR1_Huge(t *testing.T) {
	for name, s := range map[string]api.Term{"deep": deep(65536), "wide": {Kind: api.KVec, L: make([]api.Term, 1000000)}} {
		for _, write := range []func(api.Term) (string, api.Errno){read.Text, read.Plain} {
			got, e := write(s)
			wantNoText(t, name, got, e, api.ErrTerm)
		}
		got, e := read.Show(s, nil)
		wantNoText(t, name, got, e, api.ErrTerm)
		got, e = read.Lines([]api.Term{s})
		wantNoText(t, name, got, e, api.ErrTerm)
	}
	got, e := read.Show(x, append([]string{"X"}, make([]string, 1000000)...))
	wantNoText(t, "many names", got, e, api.ErrArg)
	got, e = read.Quote(strings.Repeat("a", 1000000))
	wantNoText(t, "a long name", got, e, api.ErrArg)
	for _, s := range []string{"(", "[", "{", "f(", "- ", "a-", "a,", "/*", "'", "\"", "_", "1", "\\", ". ", "[a|", "a.", "%", "'a'", "\x00", "+/*"} {
		for _, n := range []int{100, 4000, 8000, 20000, 1000000} {
			long := strings.Repeat(s, n)
			_, at, e := read.Lex(long)
			if at < 0 || at > len(long) || len(long) > api.MaxText && e != api.ErrLimit {
				t.Errorf("Lex of %d times %q: error %d at %d", n, s, e, at)
			}
			for _, end := range []string{"", "a"} {
				_, _, at, e = read.Term(long + end)
				_, place, f := read.Terms(long + end)
				if at < 0 || at > len(long+end) || place < 0 || place > len(long+end) || e == api.OK && f != api.ErrSyntax {
					t.Errorf("%d times %q: errors %d at %d, %d at %d", n, s, e, at, f, place)
				}
			}
		}
	}
}
