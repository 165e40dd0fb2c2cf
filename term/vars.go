package term

import (
	"cmp"
	"maps"
	"slices"

	"riparian/api"
)

// Vars returns the variables of terms, by their first occurrence.
func Vars(l []api.Term) ([]int, api.Errno) {
	if e := CheckAll(l); e != api.OK {
		return nil, e
	}
	var out []int
	seen := map[int]bool{}
	for _, t := range l {
		for _, node := range nodes(t) {
			if node.Kind == api.KVar && !seen[node.N] {
				seen[node.N] = true
				out = append(out, node.N)
			}
		}
	}
	return out, api.OK
}

// Times returns how often a variable occurs in a term.
func Times(t api.Term, v int) (int, api.Errno) {
	if e := checkEach(t); e != api.OK {
		return 0, e
	}
	count := 0
	for _, node := range nodes(t) {
		if node.Kind == api.KVar && node.N == v {
			count++
		}
	}
	return count, api.OK
}

// Ground reports whether a term has no variables.
func Ground(t api.Term) (bool, api.Errno) {
	if e := checkEach(t); e != api.OK {
		return false, e
	}
	for _, node := range nodes(t) {
		if node.Kind == api.KVar {
			return false, api.OK
		}
	}
	return true, api.OK
}

// Symbols returns the names of the atoms and structures of a term, sorted.
func Symbols(t api.Term) ([]api.Symbol, api.Errno) {
	if e := checkEach(t); e != api.OK {
		return nil, e
	}
	found := map[api.Symbol]bool{}
	for _, node := range nodes(t) {
		if node.Kind == api.KAtom || node.Kind == api.KFun {
			found[api.Symbol{Name: node.S, Arity: len(node.L)}] = true
		}
	}
	return slices.SortedFunc(maps.Keys(found), orderSymbols), api.OK
}

// orderSymbols compares two symbols by name, then by arity.
func orderSymbols(a, b api.Symbol) int {
	return cmp.Or(cmp.Compare(a.Name, b.Name), cmp.Compare(a.Arity, b.Arity))
}
