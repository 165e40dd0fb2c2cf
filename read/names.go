package read

import (
	"strconv"

	"riparian/api"
	"riparian/term"
)

// VarName returns the name that a variable has in texts.
func VarName(n int) (string, api.Errno) {
	if n < 0 || n >= api.MaxVar {
		return "", api.ErrArg
	}
	return varName(n), api.OK
}

// varName returns the name of a variable.
func varName(n int) string {
	letter := string([]byte{byte('A' + n%26)})
	if n < 26 {
		return letter
	}
	return letter + strconv.Itoa(n/26)
}

// Quote returns how a name is written as an atom.
func Quote(name string) (string, api.Errno) {
	if term.Check(api.Term{Kind: api.KAtom, S: name}) != api.OK {
		return "", api.ErrArg
	}
	return newWriter(varName).atom(name), api.OK
}

// atom returns the text of an atom.
func (w *writer) atom(name string) string {
	switch {
	case name == api.Nil:
		return name
	case w.ops.has(name):
		return quote(name)
	}
	return nameText(name)
}

// nameText returns the text of the name of a structure: the name itself, if it is read as this name.
func nameText(name string) string {
	if is, ok := only(name).(nameToken); ok && string(is) == name {
		return name
	}
	return quote(name)
}

// areVarNames reports whether all of some names are read as variables that are told apart.
func areVarNames(names []string) bool {
	seen := map[string]bool{"_": true}
	for _, name := range names {
		is, ok := only(name).(varToken)
		if !ok || string(is) != name || seen[name] {
			return false
		}
		seen[name] = true
	}
	return true
}

// only returns the lexeme that a text has; none, unless it has just one.
func only(text string) token {
	pieces, _, _ := attempt(func() []piece { return cut(text) })
	if len(pieces) != 1 {
		return nil
	}
	return pieces[0].is
}
