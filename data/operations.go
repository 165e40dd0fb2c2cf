package data

import (
	"slices"
	"strings"

	"riparian/api"
	"riparian/term"
)

// operation is a row of the chapter's table: the kinds of the inputs, which stand ahead of all other arguments, and the right sides of the equations; none, if the condition does not hold.
type operation struct {
	inputs []int
	sides  func(c call) []api.Term
}

// operations returns the table.
func operations() map[api.Symbol]operation {
	vector, vectorAt := []int{api.KVec}, []int{api.KVec, api.KInt}
	text, textAt := []int{api.KStr}, []int{api.KStr, api.KInt}
	return map[api.Symbol]operation{
		{Name: "vector_new", Arity: 2}:  {[]int{api.KInt}, call.vectorNew},
		{Name: "vector_size", Arity: 3}: {vector, call.vectorSize},
		{Name: "vector_get", Arity: 4}:  {vectorAt, call.vectorGet},
		{Name: "vector_set", Arity: 4}:  {vectorAt, call.vectorSet},
		{Name: "string_new", Arity: 2}:  {[]int{api.KInt}, call.stringNew},
		{Name: "string_size", Arity: 3}: {text, call.stringSize},
		{Name: "string_get", Arity: 4}:  {textAt, call.stringGet},
		{Name: "string_set", Arity: 4}:  {[]int{api.KStr, api.KInt, api.KInt}, call.stringSet},
		{Name: "string_join", Arity: 3}: {[]int{api.KStr, api.KStr}, call.stringJoin},
	}
}

// find returns the operation that a tree is.
func find(t api.Term) (operation, bool) {
	if t.Kind != api.KFun {
		return operation{}, false
	}
	o, is := operations()[api.Symbol{Name: t.S, Arity: len(t.L)}]
	return o, is
}

// deed returns what an operation does.
func (o operation) deed(c call) (api.Deed, api.Errno) {
	waits, fit := o.look(c.inputs)
	switch {
	case !fit:
		return api.Deed{Answer: api.No}, api.OK
	case len(waits) > 0:
		return api.Deed{Answer: api.Waits, Waits: waits}, api.OK
	}
	sides := o.sides(c)
	if len(sides) == 0 {
		return api.Deed{Answer: api.No}, api.OK
	}
	equal, e := c.equations(sides)
	if e != api.OK {
		return api.Deed{}, e
	}
	return api.Deed{Answer: api.Yes, Equal: equal}, api.OK
}

// look returns the unbound variables among values of inputs, each once, and whether all others are of the kinds that are asked for.
func (o operation) look(values []api.Term) ([]int, bool) {
	var waits []int
	for i, kind := range o.inputs {
		x := values[i]
		switch {
		case x.Kind == kind:
		case x.Kind != api.KVar:
			return nil, false
		case !slices.Contains(waits, x.N):
			waits = append(waits, x.N)
		}
	}
	return waits, true
}

// call is an operation with its arguments as they stand, and the values of its inputs. The methods below are called where these are of the kinds that the operation asks for.
type call struct{ args, inputs []api.Term }

// equations returns the equations with these right sides: the last arguments are their left sides. Each side is new memory, since right sides can be parts of each other.
func (c call) equations(sides []api.Term) ([]api.Pair, api.Errno) {
	outputs := c.args[len(c.args)-len(sides):]
	out := make([]api.Pair, len(sides))
	for i, side := range sides {
		if term.Check(side) != api.OK {
			return nil, api.ErrLimit
		}
		out[i] = api.Pair{A: copyTerm(outputs[i]), B: copyTerm(side)}
	}
	return out, api.OK
}

func (c call) vectorNew() []api.Term {
	n := c.inputs[0].N
	if n < 0 || n > api.MaxVec {
		return nil
	}
	return []api.Term{vector(slices.Repeat([]api.Term{integer(0)}, n))}
}

func (c call) vectorSize() []api.Term {
	v := c.inputs[0]
	return []api.Term{integer(len(v.L)), v}
}

func (c call) vectorGet() []api.Term {
	v, i := c.inputs[0], c.inputs[1].N
	if !isIndex(i, len(v.L)) {
		return nil
	}
	return []api.Term{v.L[i], v}
}

func (c call) vectorSet() []api.Term {
	v, i := c.inputs[0], c.inputs[1].N
	if !isIndex(i, len(v.L)) {
		return nil
	}
	l := slices.Clone(v.L)
	l[i] = c.args[2]
	return []api.Term{vector(l)}
}

func (c call) stringNew() []api.Term {
	n := c.inputs[0].N
	if n < 0 || n > api.MaxStr {
		return nil
	}
	return []api.Term{text(strings.Repeat("\x00", n))}
}

func (c call) stringSize() []api.Term {
	s := c.inputs[0]
	return []api.Term{integer(len(s.S)), s}
}

func (c call) stringGet() []api.Term {
	s, i := c.inputs[0], c.inputs[1].N
	if !isIndex(i, len(s.S)) {
		return nil
	}
	return []api.Term{integer(int(s.S[i])), s}
}

func (c call) stringSet() []api.Term {
	s, i, b := c.inputs[0].S, c.inputs[1].N, c.inputs[2].N
	if !isIndex(i, len(s)) || b < 0 || b > 255 {
		return nil
	}
	l := []byte(s)
	l[i] = byte(b)
	return []api.Term{text(string(l))}
}

func (c call) stringJoin() []api.Term {
	a, b := c.inputs[0].S, c.inputs[1].S
	if len(a)+len(b) > api.MaxStr {
		return nil
	}
	return []api.Term{text(a + b)}
}
