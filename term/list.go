package term

import (
	"slices"

	"riparian/api"
)

// List returns the list of items with a tail.
func List(items []api.Term, tail api.Term) (api.Term, api.Errno) {
	if e := CheckAll(items); e != api.OK {
		return api.Term{}, e
	}
	if e := checkEach(tail); e != api.OK {
		return api.Term{}, e
	}
	out := copyTerm(tail)
	for _, item := range slices.Backward(items) {
		out = api.Term{Kind: api.KFun, S: api.Cell, L: []api.Term{copyTerm(item), out}}
	}
	return limited(out)
}

// Items returns the items of a list, and its tail.
func Items(t api.Term) ([]api.Term, api.Term, api.Errno) {
	if e := checkEach(t); e != api.OK {
		return nil, api.Term{}, e
	}
	var items []api.Term
	for isCell(t) {
		items = append(items, copyTerm(t.L[0]))
		t = t.L[1]
	}
	return items, copyTerm(t), api.OK
}

// isCell reports whether a term is a list cell.
func isCell(t api.Term) bool { return t.Kind == api.KFun && t.S == api.Cell && len(t.L) == 2 }
