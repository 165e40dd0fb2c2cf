package term

import "riparian/api"

// extent is how many nodes a tree has, and its depth.
type extent struct{ nodes, depth int }

// fits reports whether a tree of this extent can be a term.
func (x extent) fits() bool { return x.nodes <= api.MaxNodes && x.depth <= api.MaxDeep }

// checkEach returns ErrTerm unless each of some trees is a term.
func checkEach(l ...api.Term) api.Errno {
	for _, t := range l {
		if _, ok := measure(t); !ok {
			return api.ErrTerm
		}
	}
	return api.OK
}

// measure returns the extent of a term; false, if the tree is none.
// It stops at the first node that is too much, so that a huge tree costs no more than a term.
func measure(t api.Term) (extent, bool) {
	var size extent
	for depth, node := range nodes(t) {
		size = extent{size.nodes + 1, max(size.depth, depth)}
		if !size.fits() || !isNode(node) {
			return extent{}, false
		}
	}
	return size, true
}

// isNode reports whether a node may stand in a term, whatever stands within it.
func isNode(t api.Term) bool {
	switch t.Kind {
	case api.KVar:
		return t.N >= 0 && t.N < api.MaxVar && t.S == "" && len(t.L) == 0
	case api.KInt:
		return t.N >= -api.MaxInt && t.N <= api.MaxInt && t.S == "" && len(t.L) == 0
	case api.KAtom:
		return t.N == 0 && isName(t.S) && len(t.L) == 0
	case api.KStr:
		return t.N == 0 && len(t.S) <= api.MaxStr && len(t.L) == 0
	case api.KFun:
		return t.N == 0 && isName(t.S) && len(t.L) >= 1 && len(t.L) <= api.MaxArity
	case api.KVec:
		return t.N == 0 && t.S == "" && len(t.L) <= api.MaxVec
	}
	return false
}

// isName reports whether a string can be the name of an atom or of a structure.
func isName(s string) bool {
	if len(s) < 1 || len(s) > api.MaxName {
		return false
	}
	for i := range len(s) {
		if s[i] < 32 || s[i] > 126 {
			return false
		}
	}
	return true
}
