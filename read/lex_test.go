package read_test

import (
	"slices"
	"strings"
	"testing"

	"riparian/api"
	"riparian/read"
)

// lexeme kinds by one letter, for tables.
var kinds = map[byte]int{'n': api.LxName, 'q': api.LxQuoted, 'v': api.LxVar, 's': api.LxStr, ',': api.LxSign, '.': api.LxEnd}

// lx returns a lexeme whose kind is the first letter of what it is, with S behind it.
func lx(what string, at, end int) api.Lexeme {
	return api.Lexeme{Kind: kinds[what[0]], S: what[1:], At: at, End: end}
}

// num returns an integer.
func num(n, at, end int) api.Lexeme { return api.Lexeme{Kind: api.LxInt, N: n, At: at, End: end} }

func wantLex(t *testing.T, s string, wanted ...api.Lexeme) {
	t.Helper()
	got, at, e := read.Lex(s)
	if e != api.OK || at != 0 || !slices.Equal(got, wanted) {
		t.Errorf("Lex(%.80q): got %v, byte %d, error %d, want %v", s, got, at, e, wanted)
	}
}

func wantNoLex(t *testing.T, s string, at int, wanted api.Errno) {
	t.Helper()
	got, place, e := read.Lex(s)
	if e != wanted || place != at || len(got) != 0 {
		t.Errorf("Lex(%.80q): got %d lexemes, byte %d, error %d, want byte %d, error %d alone", s, len(got), place, e, at, wanted)
	}
}

// TestP2_1_Lexemes: each kind, with what it says and where it stands.
func TestP2_1_Lexemes(t *testing.T) {
	wantLex(t, "f(X,-1).", lx("nf", 0, 1), lx(",(", 1, 2), lx("vX", 2, 3), lx(",,", 3, 4), lx("n-", 4, 5), num(1, 5, 6), lx(",)", 6, 7), lx("..", 7, 8))
	wantLex(t, "aB_0z Z9_a _ _a", lx("naB_0z", 0, 5), lx("vZ9_a", 6, 10), lx("v_", 11, 12), lx("v_a", 13, 15))
	wantLex(t, "+-*/\\^<>=~:?@#&$.", lx("n+-*/\\^<>=~:?@#&$.", 0, 17))
	wantLex(t, "()[]{},|", lx(",(", 0, 1), lx(",)", 1, 2), lx(",[", 2, 3), lx(",]", 3, 4), lx(",{", 4, 5), lx(",}", 5, 6), lx(",,", 6, 7), lx(",|", 7, 8))
	wantLex(t, "0 2147483647 007", num(0, 0, 1), num(2147483647, 2, 12), num(7, 13, 16))
	wantLex(t, "1+2'a'3\"s\"", num(1, 0, 1), lx("n+", 1, 2), num(2, 2, 3), lx("qa", 3, 6), num(3, 6, 7), lx("ss", 7, 10))
	wantLex(t, "mod:-:=", lx("nmod", 0, 3), lx("n:-:=", 3, 7))
	wantLex(t, "")
	wantLex(t, " \t\r\n")
}

// TestP2_1_Point: a point alone ends a term, if nothing but a blank, a comment of a line or the end comes behind it; otherwise it is a name, or a part of one.
func TestP2_1_Point(t *testing.T) {
	wantLex(t, "a.b", lx("na", 0, 1), lx("n.", 1, 2), lx("nb", 2, 3))
	wantLex(t, "a. b", lx("na", 0, 1), lx("..", 1, 2), lx("nb", 3, 4))
	wantLex(t, ".", lx("..", 0, 1))
	for _, behind := range []string{" ", "\t", "\n", "\r", "%", "%x"} {
		wantLex(t, "."+behind, lx("..", 0, 1))
	}
	wantLex(t, ".(", lx("n.", 0, 1), lx(",(", 1, 2))
	wantLex(t, ".'a'", lx("n.", 0, 1), lx("qa", 1, 4))
	wantLex(t, ".1", lx("n.", 0, 1), num(1, 1, 2))
	wantLex(t, ".. =. .=", lx("n..", 0, 2), lx("n=.", 3, 5), lx("n.=", 6, 8))
	wantLex(t, "1./*", num(1, 0, 1), lx("n./*", 1, 4))
	wantLex(t, "a/**/. b", lx("na", 0, 1), lx("..", 5, 6), lx("nb", 7, 8))
}

// TestP2_1_Comments: they begin only where a lexeme could, and end where the text says.
func TestP2_1_Comments(t *testing.T) {
	wantLex(t, "a%b\nc", lx("na", 0, 1), lx("nc", 4, 5))
	wantLex(t, "a%b/*", lx("na", 0, 1))
	wantLex(t, "/**/a/* \n%*/b", lx("na", 4, 5), lx("nb", 12, 13))
	wantLex(t, "/***/")
	wantLex(t, "/*/ */a", lx("na", 6, 7))
	wantLex(t, "/* /* */ */", lx("n*/", 9, 11))
	wantLex(t, "+/*a*/", lx("n+/*", 0, 3), lx("na", 3, 4), lx("n*/", 4, 6))
	wantLex(t, "'%' \"/*\"", lx("q%", 0, 3), lx("s/*", 4, 8))
	wantLex(t, "/**/+", lx("n+", 4, 5))
	wantNoLex(t, "a/*", 1, api.ErrLex)
	wantNoLex(t, "/*/", 0, api.ErrLex)
	wantNoLex(t, "a /* * / %\n", 2, api.ErrLex)
}

// TestP2_1_Quotes: what stands in quotes, and what may not.
func TestP2_1_Quotes(t *testing.T) {
	wantLex(t, `'a b' '"' '\'' '\\' 'A'`, lx("qa b", 0, 5), lx(`q"`, 6, 9), lx("q'", 10, 14), lx(`q\`, 15, 19), lx("qA", 20, 23))
	wantLex(t, `"" "'" "\"" "\\" "\n" "\x00\xff\x41" "~ "`, lx("s", 0, 2), lx("s'", 3, 6), lx(`s"`, 7, 11), lx(`s\`, 12, 16), lx("s\n", 17, 21), lx("s\x00\xffA", 22, 36), lx("s~ ", 37, 41))
	wantLex(t, "'a''b'", lx("qa", 0, 3), lx("qb", 3, 6))
	wantLex(t, "\"a\"\"b\"", lx("sa", 0, 3), lx("sb", 3, 6))
	for _, s := range []string{
		"'", "'a", "''", "'\\'", "'a\\", "'\\n'", "'\\x41'", "'\\\"'", "'\\a'", "'a\nb'", "'\x7f'", "'\x1f'", "'\xff'", "'\t'",
		"\"", "\"a", "\"\\\"", "\"a\\", "\"\\'\"", "\"\\a\"", "\"\\x4\"", "\"\\x4g\"", "\"\\xg4\"", "\"\\x4A\"", "\"\\xF4\"", "\"\\X41\"", "\"\\x", "\"\\x4", "\"\\x41", "\"a\nb\"", "\"\x7f\"", "\"\xc3\xa9\"", "\"\t\"",
	} {
		wantNoLex(t, s, 0, api.ErrLex)
		wantNoLex(t, "a  "+s, 3, api.ErrLex)
	}
}

// TestP2_1_Wrong: bytes at which nothing begins, and numbers that are none; the first one is told.
func TestP2_1_Wrong(t *testing.T) {
	for _, s := range []string{"!", ";", "`", "\x00", "\x7f", "\x80", "\xff", "\v", "\f", "12a", "0x1", "1_", "1A", "2147483648", "99999999999999999999999", "9223372036854775808", "18446744073709551617"} {
		wantNoLex(t, s, 0, api.ErrLex)
		wantNoLex(t, "(a "+s+"!", 3, api.ErrLex)
	}
	wantNoLex(t, "a ! /*", 2, api.ErrLex)
	wantNoLex(t, "a 'b ! c", 2, api.ErrLex)
}

// TestP2_1_Limits: bytes of names and strings, digits, lexemes, bytes of a text, and which error comes first.
func TestP2_1_Limits(t *testing.T) {
	for _, s := range []string{"a", "+", "A", "_"} {
		long := strings.Repeat(s, 32)
		if l := lex(t, long+" a"); len(l) != 2 || l[0].S != long {
			t.Errorf("32 bytes: %v", l)
		}
		wantNoLex(t, "a "+long+s, 2, api.ErrLex)
	}
	wantLex(t, "'"+strings.Repeat("\\'", 32)+"'", lx("q"+strings.Repeat("'", 32), 0, 66))
	wantNoLex(t, "'"+strings.Repeat("a", 33)+"'", 0, api.ErrLex)
	wantLex(t, "\""+strings.Repeat("\\x00", 255)+"\"", lx("s"+strings.Repeat("\x00", 255), 0, 1022))
	wantNoLex(t, "\""+strings.Repeat("a", 256)+"\"", 0, api.ErrLex)
	wantLex(t, strings.Repeat("0", 19999)+"7", num(7, 0, 20000))
	wantNoLex(t, strings.Repeat("9", 20000), 0, api.ErrLex)
	wantLex(t, strings.Repeat(" ", 20000))
	wantNoLex(t, strings.Repeat(" ", 20001), 0, api.ErrLimit)
	wantNoLex(t, strings.Repeat("!", 20001), 0, api.ErrLimit)
	want(t, "lexemes", len(lex(t, strings.Repeat("(", 8000))), 8000)
	wantNoLex(t, strings.Repeat("(", 8001), 0, api.ErrLimit)
	wantNoLex(t, strings.Repeat("(", 8001)+"!", 8001, api.ErrLex)
}

// TestP2_1_Cover: lexemes stand one behind the other, and what lies between is blanks and comments.
func TestP2_1_Cover(t *testing.T) {
	many(func(s api.Term) {
		written := text(t, s)
		at := 0
		for _, l := range lex(t, written) {
			if strings.Trim(written[at:l.At], " ") != "" || l.End <= l.At {
				t.Fatalf("%q: lexeme at %d to %d", written, l.At, l.End)
			}
			at = l.End
		}
		want(t, written, at, len(written))
	})
}
