package read

import (
	"strconv"

	"riparian/api"
	"riparian/term"
)

// Text returns the text of a term, with the least brackets and blanks.
func Text(t api.Term) (string, api.Errno) {
	return newWriter(varName).whole(t)
}

// Show returns the text of a term with names for its variables.
func Show(t api.Term, names []string) (string, api.Errno) {
	vars, e := term.Vars([]api.Term{t})
	if e != api.OK {
		return "", e
	}
	for _, v := range vars {
		if v >= len(names) {
			return "", api.ErrArg
		}
	}
	if !areVarNames(names) {
		return "", api.ErrArg
	}
	return newWriter(func(n int) string { return names[n] }).whole(t)
}

// Plain returns the text of a term without operators.
func Plain(t api.Term) (string, api.Errno) {
	w := newWriter(varName)
	w.plain = true
	return w.whole(t)
}

// Lines returns the texts of terms, each with a point and a line feed.
func Lines(l []api.Term) (string, api.Errno) {
	for _, t := range l {
		if e := term.Check(t); e != api.OK {
			return "", e
		}
	}
	w := newWriter(varName)
	for _, t := range l {
		w.term(t, wholePlace)
		w.put(".")
		w.out = append(w.out, '\n')
		if len(w.out) > api.MaxText {
			break
		}
	}
	return w.result()
}

// writer writes terms. Behind is whether the last lexeme is a prefix operator.
type writer struct {
	out      []byte
	ops      operators
	variable func(int) string
	plain    bool
	behind   bool
}

// newWriter returns a writer with names for variables.
func newWriter(variable func(int) string) *writer {
	return &writer{ops: newOperators(), variable: variable}
}

// whole returns the text of a term alone.
func (w *writer) whole(t api.Term) (string, api.Errno) {
	if e := term.Check(t); e != api.OK {
		return "", e
	}
	w.term(t, wholePlace)
	return w.result()
}

// result returns what was written, if it is not too long.
func (w *writer) result() (string, api.Errno) {
	if len(w.out) > api.MaxText {
		return "", api.ErrLimit
	}
	return string(w.out), api.OK
}

// put writes a lexeme, with a blank ahead of it if it needs one.
func (w *writer) put(s string) {
	if w.needsBlank(s[0]) {
		w.out = append(w.out, ' ')
	}
	w.out = append(w.out, s...)
	w.behind = false
}

// needsBlank reports whether a lexeme that begins with a byte would run into the last one, or, a bracket, would make the name of a structure of a prefix operator. Bytes tell, because quotes run into nothing.
func (w *writer) needsBlank(first byte) bool {
	if len(w.out) == 0 {
		return false
	}
	last := w.out[len(w.out)-1]
	return isNamed(last) && isNamed(first) || isSymbol(last) && isSymbol(first) || w.behind && first == '('
}

// term writes a term at a place for terms up to a priority.
func (w *writer) term(t api.Term, most int) {
	op := w.operator(t)
	switch {
	case op.Prio > most:
		w.put("(")
		w.term(t, wholePlace)
		w.put(")")
	case op.Prio == 0:
		w.simple(t)
	case op.Left == 0:
		w.put(t.S)
		w.behind = true
		w.term(t.L[0], op.Right)
	default:
		w.term(t.L[0], op.Left)
		w.put(t.S)
		w.term(t.L[1], op.Right)
	}
}

// operator returns the operator with which a term is written; a priority of 0, if it is written without one.
func (w *writer) operator(t api.Term) api.Op {
	if w.plain || t.Kind != api.KFun {
		return api.Op{}
	}
	switch len(t.L) {
	case 1:
		op := w.ops.prefix[t.S]
		if t.S == "-" && (t.L[0].Kind == api.KInt || w.operator(t.L[0]).Prio > op.Right) {
			return api.Op{}
		}
		return op
	case 2:
		return w.ops.infix[t.S]
	}
	return api.Op{}
}

// simple writes a term that begins with no other one, and with no operator.
func (w *writer) simple(t api.Term) {
	switch t.Kind {
	case api.KVar:
		w.put(w.variable(t.N))
	case api.KInt:
		w.put(strconv.Itoa(t.N))
	case api.KAtom:
		w.put(w.atom(t.S))
	case api.KStr:
		w.put(quoteStr(t.S))
	case api.KVec:
		w.put("{")
		w.parts(t.L)
		w.put("}")
	case api.KFun:
		if isCell(t) {
			w.list(t)
			return
		}
		w.put(nameText(t.S))
		w.put("(")
		w.parts(t.L)
		w.put(")")
	}
}

// parts writes arguments, or elements.
func (w *writer) parts(l []api.Term) {
	for i, t := range l {
		if i > 0 {
			w.put(",")
		}
		w.term(t, partPlace)
	}
}

// list writes cells.
func (w *writer) list(t api.Term) {
	w.put("[")
	w.term(t.L[0], partPlace)
	for t = t.L[1]; isCell(t); t = t.L[1] {
		w.put(",")
		w.term(t.L[0], partPlace)
	}
	if t.Kind != api.KAtom || t.S != api.Nil {
		w.put("|")
		w.term(t, partPlace)
	}
	w.put("]")
}

// isCell reports whether a term is a list cell.
func isCell(t api.Term) bool { return t.Kind == api.KFun && t.S == api.Cell && len(t.L) == 2 }
