package read

import "riparian/api"

// Priorities of places: of a whole term, and of an argument, an item or an element.
const (
	wholePlace = 1200
	partPlace  = 999
)

// operators are the operators of the table, by their names. Its function builds it, so that whoever looks up many names builds it once.
type operators struct{ infix, prefix map[string]api.Op }

// newOperators returns the operators of the table.
func newOperators() operators {
	ops := operators{
		infix: map[string]api.Op{
			":-": {Prio: 1200, Left: 1199, Right: 1199},
			"|":  {Prio: 1100, Left: 1099, Right: 1100},
			",":  {Prio: 1000, Left: 999, Right: 1000},
			"@":  {Prio: 900, Left: 899, Right: 899},
		},
		prefix: map[string]api.Op{
			":-": {Prio: 1200, Right: 1199},
			"-":  {Prio: 200, Right: 200},
		},
	}
	for _, name := range []string{"=", "==", "\\==", "=:=", "=\\=", "<", "=<", ">", ">=", ":="} {
		ops.infix[name] = api.Op{Prio: 700, Left: 699, Right: 699}
	}
	for _, name := range []string{"+", "-"} {
		ops.infix[name] = api.Op{Prio: 500, Left: 500, Right: 499}
	}
	for _, name := range []string{"*", "/", "mod"} {
		ops.infix[name] = api.Op{Prio: 400, Left: 400, Right: 399}
	}
	return ops
}

// has reports whether a name is that of an operator.
func (ops operators) has(name string) bool {
	return ops.infix[name].Prio > 0 || ops.prefix[name].Prio > 0
}

// Infix returns the infix operator with a name, and whether there is one.
func Infix(name string) (api.Op, bool) {
	op, is := newOperators().infix[name]
	return op, is
}

// Prefix returns the prefix operator with a name, and whether there is one.
func Prefix(name string) (api.Op, bool) {
	op, is := newOperators().prefix[name]
	return op, is
}
