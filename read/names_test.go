package read_test

import (
	"strings"
	"testing"

	"riparian/api"
	"riparian/read"
)

// TestP2_4_VarName: a letter, and how often all letters were used up.
func TestP2_4_VarName(t *testing.T) {
	for n, wanted := range map[int]string{0: "A", 1: "B", 25: "Z", 26: "A1", 27: "B1", 51: "Z1", 52: "A2", 260: "A10", 99999: "D3846"} {
		got, e := read.VarName(n)
		wantText(t, "VarName", got, e, wanted)
	}
	for _, n := range []int{-1, 100000, -1 << 63, 1<<63 - 1} {
		got, e := read.VarName(n)
		wantNoText(t, "VarName", got, e, api.ErrArg)
	}
	seen := map[string]bool{}
	for n := range api.MaxVar {
		got, e := read.VarName(n)
		if e != api.OK || seen[got] {
			t.Fatalf("VarName(%d): %q again, error %d", n, got, e)
		}
		seen[got] = true
	}
}

// TestP2_4_Quote: atoms as they are written, and strings that are no names.
func TestP2_4_Quote(t *testing.T) {
	for name, wanted := range map[string]string{
		"[]": "[]", "it's": `'it\'s'`, "a": "a", "aB1_": "aB1_", "A": "'A'", "_": "'_'", "a b": "'a b'", "\\": "\\", "\\ ": `'\\ '`, ".": "'.'", "..": "..", "{}": "'{}'", "#": "#", "+-": "+-", ",": "','", "|": "'|'", "(": "'('", "/*": "'/*'", "%": "'%'", " ": "' '", "!": "'!'", ";": "';'", "1": "'1'", "1a": "'1a'", "-1": "'-1'", "\"": `'"'`, "a.": "'a.'", "a%": "'a%'", "[]a": "'[]a'", "[": "'['",
		strings.Repeat("~", 32): strings.Repeat("~", 32), strings.Repeat("'", 32): "'" + strings.Repeat("\\'", 32) + "'",
	} {
		got, e := read.Quote(name)
		wantText(t, "Quote", got, e, wanted)
		if !isTerm(got, atom(name)) {
			t.Errorf("%q is not read as the atom %q", got, name)
		}
	}
	for name := range infixTable {
		got, e := read.Quote(name)
		wantText(t, "Quote", got, e, "'"+strings.ReplaceAll(name, "\\", "\\\\")+"'")
	}
	for _, name := range []string{"", strings.Repeat("a", 33), "a\n", "\x7f", "\x00", "é", "\xff"} {
		got, e := read.Quote(name)
		wantNoText(t, "Quote", got, e, api.ErrArg)
	}
}

// TestP2_4_Operators: the table, and names that are not in it.
func TestP2_4_Operators(t *testing.T) {
	for name, wanted := range infixTable {
		op, is := read.Infix(name)
		want(t, name, op, wanted)
		want(t, name, is, true)
		op, is = read.Prefix(name)
		want(t, name, op, prefixTable[name])
		want(t, name, is, prefixTable[name].Prio > 0)
	}
	for _, name := range []string{"", ".", "a", "--", "->", "\\=", "=..", ";", "div", "Mod", "-1", "(", "[]", ": -", " -", strings.Repeat("-", 1000)} {
		op, is := read.Infix(name)
		want(t, name, op, api.Op{})
		want(t, name, is, false)
		op, is = read.Prefix(name)
		want(t, name, op, api.Op{})
		want(t, name, is, false)
	}
}
