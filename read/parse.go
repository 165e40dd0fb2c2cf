package read

import "riparian/api"

// parser reads lexemes: those ahead of next are read already. The variables and their names are those of the term that is being read.
type parser struct {
	pieces []piece
	next   int
	length int
	ops    operators
	vars   map[string]int
	names  []string
}

// newParser returns a parser at the beginning of a text.
func newParser(text string) *parser {
	return &parser{pieces: cut(text), length: len(text), ops: newOperators()}
}

// reading reads a term with variables of its own.
func (p *parser) reading() reading {
	p.vars, p.names = map[string]int{}, nil
	t := p.term(wholePlace)
	return reading{t, p.names}
}

// atEnd reports whether all lexemes are read.
func (p *parser) atEnd() bool { return p.next == len(p.pieces) }

// tooMuch throws that the text cannot go on with the next lexeme, or cannot end here.
func (p *parser) tooMuch() {
	if p.atEnd() {
		throw(p.length, api.ErrSyntax)
	}
	throw(p.pieces[p.next].at, api.ErrSyntax)
}

// peek returns the next lexeme; none, at the end.
func (p *parser) peek() token {
	if p.atEnd() {
		return nil
	}
	return p.pieces[p.next].is
}

// glued returns the lexeme that stands directly behind the next one; none, if something stands between.
func (p *parser) glued() token {
	if p.next+1 >= len(p.pieces) || p.pieces[p.next].end != p.pieces[p.next+1].at {
		return nil
	}
	return p.pieces[p.next+1].is
}

// opens reports whether the next lexeme, a name, is that of a structure with its arguments in brackets.
func (p *parser) opens() bool { return isSignOf(p.glued(), "(") }

// isSignOf reports whether a lexeme is a certain sign.
func isSignOf(is token, wanted string) bool {
	s, ok := is.(signToken)
	return ok && string(s) == wanted
}

// skip goes behind a sign, if it comes next.
func (p *parser) skip(s string) bool {
	if !isSignOf(p.peek(), s) {
		return false
	}
	p.next++
	return true
}

// sign goes behind a sign that has to come next.
func (p *parser) sign(s string) {
	if !p.skip(s) {
		p.tooMuch()
	}
}

// end goes behind the point at the end of a term.
func (p *parser) end() {
	if _, ok := p.peek().(endToken); !ok {
		p.tooMuch()
	}
	p.next++
}

// term reads a term up to a priority, as far as it goes.
func (p *parser) term(most int) api.Term {
	t, prio := p.first(most)
	for {
		name, op := p.infix()
		if op.Prio == 0 || op.Prio > most || prio > op.Left {
			return t
		}
		p.next++
		t, prio = structure(name, t, p.term(op.Right)), op.Prio
	}
}

// infix returns the infix operator that comes next; a priority of 0, if none does.
func (p *parser) infix() (string, api.Op) {
	switch is := p.peek().(type) {
	case nameToken:
		return string(is), p.ops.infix[string(is)]
	case signToken:
		return string(is), p.ops.infix[string(is)]
	}
	return "", api.Op{}
}

// first reads a term that does not begin with another one, and returns its priority.
func (p *parser) first(most int) (api.Term, int) {
	switch is := p.peek().(type) {
	case nameToken:
		return p.named(string(is), most)
	case quotedToken:
		return p.plain(string(is)), 0
	case signToken:
		return p.bracketed(string(is)), 0
	case varToken:
		p.next++
		return p.variable(string(is)), 0
	case intToken:
		p.next++
		return api.Term{Kind: api.KInt, N: int(is)}, 0
	case strToken:
		p.next++
		return api.Term{Kind: api.KStr, S: string(is)}, 0
	}
	p.tooMuch()
	return api.Term{}, 0
}

// named reads what begins with a name without quotes, and returns its priority.
func (p *parser) named(name string, most int) (api.Term, int) {
	if p.opens() {
		return p.plain(name), 0
	}
	if n, ok := p.glued().(intToken); ok && name == "-" {
		p.next += 2
		return api.Term{Kind: api.KInt, N: -int(n)}, 0
	}
	if op := p.ops.prefix[name]; op.Prio > 0 && op.Prio <= most {
		p.next++
		return structure(name, p.term(op.Right)), op.Prio
	}
	if p.ops.has(name) {
		p.tooMuch()
	}
	return p.plain(name), 0
}

// plain reads an atom, or a structure with its arguments in brackets.
func (p *parser) plain(name string) api.Term {
	opens := p.opens()
	p.next++
	if !opens {
		return api.Term{Kind: api.KAtom, S: name}
	}
	p.sign("(")
	arguments := p.parts()
	p.sign(")")
	return structure(name, arguments...)
}

// parts reads arguments, items or elements.
func (p *parser) parts() []api.Term {
	out := []api.Term{p.term(partPlace)}
	for p.skip(",") {
		out = append(out, p.term(partPlace))
	}
	return out
}

// bracketed reads what begins with a sign.
func (p *parser) bracketed(opening string) api.Term {
	switch opening {
	case "(":
		p.next++
		t := p.term(wholePlace)
		p.sign(")")
		return t
	case "[":
		p.next++
		return p.list()
	case "{":
		p.next++
		return p.vector()
	}
	p.tooMuch()
	return api.Term{}
}

// list reads a list behind its bracket.
func (p *parser) list() api.Term {
	out := api.Term{Kind: api.KAtom, S: api.Nil}
	if p.skip("]") {
		return out
	}
	items := p.parts()
	if p.skip("|") {
		out = p.term(partPlace)
	}
	p.sign("]")
	for i := len(items) - 1; i >= 0; i-- {
		out = structure(api.Cell, items[i], out)
	}
	return out
}

// vector reads a vector behind its bracket.
func (p *parser) vector() api.Term {
	out := api.Term{Kind: api.KVec}
	if p.skip("}") {
		return out
	}
	out.L = p.parts()
	p.sign("}")
	return out
}

// variable returns the variable with a name: a new one, if the name is new, or tells nothing.
func (p *parser) variable(name string) api.Term {
	v, known := p.vars[name]
	if !known || name == "_" {
		v = len(p.names)
		p.vars[name] = v
		p.names = append(p.names, name)
	}
	return api.Term{Kind: api.KVar, N: v}
}

// structure returns a structure.
func structure(name string, arguments ...api.Term) api.Term {
	return api.Term{Kind: api.KFun, S: name, L: arguments}
}
