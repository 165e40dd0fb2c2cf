package read

import (
	"strings"

	"riparian/api"
)

// hexDigits are the digits of numbers to the base 16, by their values.
const hexDigits = "0123456789abcdef"

// cutQuoted cuts a name in quotes.
func (l *lexer) cutQuoted() step {
	s, end := l.quoted()
	if len(s) < 1 || len(s) > api.MaxName {
		l.reject()
	}
	return l.add(quotedToken(s), end)
}

// cutStr cuts a string.
func (l *lexer) cutStr() step {
	s, end := l.quoted()
	if len(s) > api.MaxStr {
		l.reject()
	}
	return l.add(strToken(s), end)
}

// quoted returns the bytes that stand for themselves, or for others, up to the next quote like the one here, and where the text goes on behind that.
func (l *lexer) quoted() (string, int) {
	quote := l.text[l.at]
	var out []byte
	at := l.at + 1
	for at < len(l.text) && l.text[at] != quote {
		c, length := unquote(l.text[at:], quote)
		if length == 0 {
			l.reject()
		}
		out = append(out, c)
		at += length
	}
	if at == len(l.text) {
		l.reject()
	}
	return string(out), at + 1
}

// unquote returns the byte for which the beginning of a text in quotes stands, and how long this beginning is; 0, if there is none.
func unquote(text string, quote byte) (byte, int) {
	switch {
	case !isShown(text[0]):
		return 0, 0
	case text[0] != '\\':
		return text[0], 1
	case len(text) == 1:
		return 0, 0
	case text[1] == quote || text[1] == '\\':
		return text[1], 2
	case quote == '\'':
		return 0, 0
	case text[1] == 'n':
		return '\n', 2
	case text[1] != 'x' || len(text) < 4:
		return 0, 0
	}
	high, low := strings.IndexByte(hexDigits, text[2]), strings.IndexByte(hexDigits, text[3])
	if high < 0 || low < 0 {
		return 0, 0
	}
	return byte(16*high + low), 4
}

// quote returns a name in quotes.
func quote(name string) string {
	out := []byte{'\''}
	for i := range len(name) {
		if name[i] == '\'' || name[i] == '\\' {
			out = append(out, '\\')
		}
		out = append(out, name[i])
	}
	return string(append(out, '\''))
}

// quoteStr returns a string in quotes.
func quoteStr(s string) string {
	out := []byte{'"'}
	for i := range len(s) {
		switch c := s[i]; {
		case c == '"' || c == '\\':
			out = append(out, '\\', c)
		case c == '\n':
			out = append(out, '\\', 'n')
		case isShown(c):
			out = append(out, c)
		default:
			out = append(out, '\\', 'x', hexDigits[c/16], hexDigits[c%16])
		}
	}
	return string(append(out, '"'))
}
