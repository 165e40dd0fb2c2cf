package read

import (
	"strings"

	"riparian/api"
)

// token is what a lexeme says: it is one of the types below, by the kind of the lexeme.
type token any

type (
	nameToken   string
	quotedToken string
	varToken    string
	intToken    int
	strToken    string
	signToken   string
	endToken    string
)

// piece is a lexeme of a text: the bytes from at up to the one ahead of end.
type piece struct {
	is      token
	at, end int
}

// lexeme returns a piece as others see it.
func (x piece) lexeme() api.Lexeme {
	out := api.Lexeme{At: x.at, End: x.end}
	switch is := x.is.(type) {
	case nameToken:
		out.Kind, out.S = api.LxName, string(is)
	case quotedToken:
		out.Kind, out.S = api.LxQuoted, string(is)
	case varToken:
		out.Kind, out.S = api.LxVar, string(is)
	case intToken:
		out.Kind, out.N = api.LxInt, int(is)
	case strToken:
		out.Kind, out.S = api.LxStr, string(is)
	case signToken:
		out.Kind, out.S = api.LxSign, string(is)
	case endToken:
		out.Kind, out.S = api.LxEnd, string(is)
	}
	return out
}

// lexer cuts a text: what lies ahead of the byte at is cut already.
type lexer struct {
	text   string
	at     int
	pieces []piece
}

// step is how a lexer goes on; without a function it is at its end.
type step struct{ run func(*lexer) step }

// cut returns the lexemes of a text, or throws its first error.
func cut(text string) []piece {
	if len(text) > api.MaxText {
		throw(0, api.ErrLimit)
	}
	l := &lexer{text: text}
	for next := (step{(*lexer).begin}); next.run != nil; {
		next = next.run(l)
	}
	if len(l.pieces) > api.MaxLexes {
		throw(0, api.ErrLimit)
	}
	return l.pieces
}

// begin goes to the next lexeme, and on with what it begins with.
func (l *lexer) begin() step {
	l.pass()
	if l.at == len(l.text) {
		return step{}
	}
	switch c := l.text[l.at]; {
	case isSmall(c):
		return step{(*lexer).cutName}
	case isCapital(c) || c == '_':
		return step{(*lexer).cutVar}
	case isDigit(c):
		return step{(*lexer).cutInt}
	case isSymbol(c):
		return step{(*lexer).cutSymbols}
	case isSign(c):
		return step{(*lexer).cutSign}
	case c == '\'':
		return step{(*lexer).cutQuoted}
	case c == '"':
		return step{(*lexer).cutStr}
	}
	l.reject()
	return step{}
}

// reject throws that no lexeme begins where the lexer stands.
func (l *lexer) reject() { throw(l.at, api.ErrLex) }

// pass goes behind blanks and comments.
func (l *lexer) pass() {
passing:
	for l.at < len(l.text) {
		rest := l.text[l.at:]
		switch {
		case isBlank(rest[0]):
			l.at++
		case rest[0] == '%':
			line, _, _ := strings.Cut(rest, "\n")
			l.at += len(line)
		case strings.HasPrefix(rest, "/*"):
			comment, _, ended := strings.Cut(rest[2:], "*/")
			if !ended {
				l.reject()
			}
			l.at += len(comment) + 4
		default:
			break passing
		}
	}
}

// add adds a lexeme that ends ahead of a byte, and goes there.
func (l *lexer) add(is token, end int) step {
	l.pieces = append(l.pieces, piece{is, l.at, end})
	l.at = end
	return step{(*lexer).begin}
}

// run returns the bytes of a class that stand here one behind the other.
func (l *lexer) run(class func(byte) bool) string {
	end := l.at
	for end < len(l.text) && class(l.text[end]) {
		end++
	}
	return l.text[l.at:end]
}

// named returns a run that is a name, or that of a variable.
func (l *lexer) named(class func(byte) bool) string {
	s := l.run(class)
	if len(s) > api.MaxName {
		l.reject()
	}
	return s
}

func (l *lexer) cutName() step {
	s := l.named(isNamed)
	return l.add(nameToken(s), l.at+len(s))
}

func (l *lexer) cutVar() step {
	s := l.named(isNamed)
	return l.add(varToken(s), l.at+len(s))
}

func (l *lexer) cutSign() step {
	return l.add(signToken(l.text[l.at:l.at+1]), l.at+1)
}

// cutSymbols cuts a name of symbol characters, or the point at the end of a term.
func (l *lexer) cutSymbols() step {
	s := l.named(isSymbol)
	end := l.at + len(s)
	if s == "." && (end == len(l.text) || isBlank(l.text[end]) || l.text[end] == '%') {
		return l.add(endToken(s), end)
	}
	return l.add(nameToken(s), end)
}

// cutInt cuts an integer. It stops counting where the number is too great, however many digits there are.
func (l *lexer) cutInt() step {
	s := l.run(isNamed)
	n := 0
	for i := range len(s) {
		n = 10*n + int(s[i]-'0')
		if !isDigit(s[i]) || n > api.MaxInt {
			l.reject()
		}
	}
	return l.add(intToken(n), l.at+len(s))
}
