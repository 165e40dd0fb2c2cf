package term

import (
	"strconv"

	"riparian/api"
)

// differences has the variable of General for each two parts of two terms that differ; the text of both is the key.
type differences map[string]int

// General returns the least general term of which two terms are instances.
func General(a, b api.Term) (api.Term, api.Errno) {
	if e := checkEach(a, b); e != api.OK {
		return api.Term{}, e
	}
	return differences{}.general(a, b), api.OK
}

// general returns the least general term of two parts. It goes through places in order, so that new variables come out normal.
func (d differences) general(a, b api.Term) api.Term {
	if a.Kind == api.KVar || !sameTop(a, b) {
		return d.variable(a, b)
	}
	out := api.Term{Kind: a.Kind, N: a.N, S: a.S}
	for i, x := range a.L {
		out.L = append(out.L, d.general(x, b.L[i]))
	}
	return out
}

// variable returns the variable that stands where these two stand.
func (d differences) variable(a, b api.Term) api.Term {
	key := string(appendText(appendText(nil, a), b))
	v, known := d[key]
	if !known {
		v = len(d)
		d[key] = v
	}
	return api.Term{Kind: api.KVar, N: v}
}

// appendText appends a text of a term. No text is the beginning of another one: those of two terms, one behind the other, say which two they are.
func appendText(out []byte, t api.Term) []byte {
	for _, n := range [...]int{t.Kind, t.N, len(t.L), len(t.S)} {
		out = strconv.AppendInt(out, int64(n), 10)
		out = append(out, ' ')
	}
	out = append(out, t.S...)
	for _, x := range t.L {
		out = appendText(out, x)
	}
	return out
}
