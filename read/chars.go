package read

import "strings"

// signs are the bytes that are lexemes by themselves.
const signs = "()[]{},|"

// symbols are the bytes of which names without letters are made.
const symbols = "+-*/\\^<>=~:?@#&$."

func isSmall(c byte) bool   { return c >= 'a' && c <= 'z' }
func isCapital(c byte) bool { return c >= 'A' && c <= 'Z' }
func isDigit(c byte) bool   { return c >= '0' && c <= '9' }
func isSign(c byte) bool    { return strings.IndexByte(signs, c) >= 0 }
func isSymbol(c byte) bool  { return strings.IndexByte(symbols, c) >= 0 }
func isBlank(c byte) bool   { return c == ' ' || c == '\t' || c == '\n' || c == '\r' }

// isShown reports whether a byte can stand in quotes as it is, but for the quotes and the backslash.
func isShown(c byte) bool { return c >= 32 && c <= 126 }

// isNamed reports whether a byte can stand in a name behind its first letter.
func isNamed(c byte) bool { return isSmall(c) || isCapital(c) || isDigit(c) || c == '_' }
