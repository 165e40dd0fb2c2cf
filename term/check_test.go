package term_test

import (
	"strings"
	"testing"

	"riparian/api"
	"riparian/term"
)

// TestP1_1_Check: just the trees that the chapter calls terms are terms.
func TestP1_1_Check(t *testing.T) {
	good := map[string]api.Term{
		"variable 0": variable(0), "variable 99999": variable(99999),
		"greatest integer": integer(2147483647), "least integer": integer(-2147483647),
		"empty list": empty, "blank": atom(" "), "tilde": atom("~"), "32 bytes": atom(strings.Repeat("n", 32)),
		"empty string": str(""), "any bytes": str("\x00\n\x7f\xff"), "255 bytes": str(strings.Repeat("s", 255)),
		"1 argument": fun("f", a), "16 arguments": api.Term{Kind: api.KFun, S: "f", L: make16()},
		"empty vector": vec(), "64 elements": api.Term{Kind: api.KVec, L: broad(66).L[0].L},
		"4000 nodes": broad(4000), "600 deep": chain(600, a), "empty slice": {Kind: api.KAtom, S: "a", L: []api.Term{}},
	}
	for name, g := range good {
		want(t, name, term.Check(g), api.OK)
	}
	wrong := map[string]api.Term{
		"kind 0": free, "kind 7": {Kind: 7}, "kind -1": {Kind: -1}, "kind 0 with name": {S: "a"},
		"variable -1": variable(-1), "variable 100000": variable(100000),
		"variable with name": {Kind: api.KVar, S: "a"}, "variable with elements": {Kind: api.KVar, L: []api.Term{a}},
		"integer too great": integer(2147483648), "integer too small": integer(-2147483648),
		"integer with name": {Kind: api.KInt, S: "a"}, "integer with elements": {Kind: api.KInt, L: []api.Term{a}},
		"atom without name": atom(""), "byte 31": atom("a\x1f"), "byte 127": atom("\x7f"), "33 bytes": atom(strings.Repeat("n", 33)),
		"atom with N": {Kind: api.KAtom, S: "a", N: 1}, "atom with elements": {Kind: api.KAtom, S: "a", L: []api.Term{a}},
		"256 bytes": str(strings.Repeat("s", 256)), "string with N": {Kind: api.KStr, N: 1}, "string with elements": {Kind: api.KStr, L: []api.Term{a}},
		"no arguments": fun("f"), "17 arguments": {Kind: api.KFun, S: "f", L: append(make16(), a)},
		"structure without name": fun("", a), "structure, byte 128": fun("\x80", a), "structure, 33 bytes": fun(strings.Repeat("n", 33), a), "structure with N": {Kind: api.KFun, S: "f", N: -1, L: []api.Term{a}},
		"65 elements": {Kind: api.KVec, L: append(broad(66).L[0].L, a)}, "vector with name": {Kind: api.KVec, S: "v"}, "vector with N": {Kind: api.KVec, N: 1},
		"4001 nodes": broad(4001), "601 deep": chain(601, a), "none within": fun("f", a, vec(free)), "none deep within": chain(600, integer(1<<31)),
	}
	for name, w := range wrong {
		want(t, name, term.Check(w), api.ErrTerm)
	}
}

func make16() []api.Term { return append([]api.Term(nil), broad(18).L[0].L...) }

// TestP1_1_CheckAll: each one is a term, and together they have at most 4000 nodes.
func TestP1_1_CheckAll(t *testing.T) {
	for i, c := range []struct {
		l []api.Term
		e api.Errno
	}{
		{nil, api.OK}, {[]api.Term{}, api.OK}, {[]api.Term{a}, api.OK}, {[]api.Term{x, broad(3999)}, api.OK}, {[]api.Term{broad(2000), broad(1000), broad(1000)}, api.OK},
		{[]api.Term{x, broad(4000)}, api.ErrTerm}, {[]api.Term{broad(2000), broad(1000), broad(1001)}, api.ErrTerm}, {[]api.Term{broad(4001)}, api.ErrTerm},
		{[]api.Term{free}, api.ErrTerm}, {[]api.Term{a, b, fun("f")}, api.ErrTerm}, {[]api.Term{chain(601, a)}, api.ErrTerm}, {make([]api.Term, 5000), api.ErrTerm},
	} {
		if e := term.CheckAll(c.l); e != c.e {
			t.Errorf("%d: error %d, want %d", i, e, c.e)
		}
	}
	for i, w := range bad() {
		if term.CheckAll([]api.Term{a, w}) != api.ErrTerm || term.CheckAll([]api.Term{w, a}) != api.ErrTerm {
			t.Errorf("bad term %d passes", i)
		}
	}
}

// TestP1_1_Size: nodes and depth of all trees, also of those that are no terms.
func TestP1_1_Size(t *testing.T) {
	for name, c := range map[string]struct {
		t            api.Term
		nodes, depth int
	}{
		"example":     {fun("f", x, list(empty, a)), 5, 3},
		"atom":        {a, 1, 1},
		"vector":      {vec(), 1, 1},
		"free":        {free, 1, 1},
		"deep ahead":  {fun("f", fun("g", fun("h", a)), b), 5, 4},
		"deep behind": {fun("f", b, fun("g", fun("h", a))), 5, 4},
		"no term":     {api.Term{Kind: 9, L: []api.Term{free, {Kind: api.KVar, L: []api.Term{a}}}}, 4, 3},
		"too many":    {broad(9000), 9000, 3},
		"65536 deep":  {chain(65536, a), 65536, 65536},
	} {
		nodes, depth := term.Size(c.t)
		want(t, name+": nodes", nodes, c.nodes)
		want(t, name+": depth", depth, c.depth)
	}
	for _, s := range small() {
		nodes, _, depth := weigh(s)
		n, d := term.Size(s)
		if n != nodes || d != depth {
			t.Errorf("%v: %d, %d", s, n, d)
		}
	}
}

// TestP1_1_Same: all four fields count, in all trees; a nil list and an empty one are the same.
func TestP1_1_Same(t *testing.T) {
	full := api.Term{Kind: 5, N: 3, S: "f", L: []api.Term{a, b}}
	for name, other := range map[string]api.Term{
		"kind": {Kind: 6, N: 3, S: "f", L: []api.Term{a, b}}, "number": {Kind: 5, N: 4, S: "f", L: []api.Term{a, b}},
		"name": {Kind: 5, N: 3, S: "g", L: []api.Term{a, b}}, "fewer": {Kind: 5, N: 3, S: "f", L: []api.Term{a}},
		"more": {Kind: 5, N: 3, S: "f", L: []api.Term{a, b, c}}, "order": {Kind: 5, N: 3, S: "f", L: []api.Term{b, a}}, "last": {Kind: 5, N: 3, S: "f", L: []api.Term{a, c}},
	} {
		if term.Same(full, other) || term.Same(other, full) {
			t.Errorf("%s does not count", name)
		}
	}
	if !term.Same(full, api.Term{Kind: 5, N: 3, S: "f", L: []api.Term{a, b}}) || !term.Same(free, free) {
		t.Error("what is equal is not the same")
	}
	if !term.Same(a, api.Term{Kind: api.KAtom, S: "a", L: []api.Term{}}) {
		t.Error("a nil list and an empty one differ")
	}
	if !term.Same(chain(65536, a), chain(65536, a)) || term.Same(chain(65536, a), chain(65536, b)) {
		t.Error("deep trees")
	}
	for i, s := range small() {
		for j, u := range small() {
			if term.Same(s, u) != equal(s, u) {
				t.Errorf("%d and %d", i, j)
			}
		}
	}
}
