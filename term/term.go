// Package term has the terms that programs work on. See shared/doc/01-term.md.
package term

import (
	"cmp"
	"slices"
	"strings"

	"riparian/api"
)

// Check returns ErrTerm unless t is a term.
func Check(t api.Term) api.Errno { return checkEach(t) }

// CheckAll returns ErrTerm unless all are terms, and they have together not too many nodes.
func CheckAll(l []api.Term) api.Errno {
	count := 0
	for _, t := range l {
		size, ok := measure(t)
		count += size.nodes
		if !ok || count > api.MaxNodes {
			return api.ErrTerm
		}
	}
	return api.OK
}

// Size returns how many nodes a tree has, and how many lie within each other.
func Size(t api.Term) (int, int) {
	count, deepest := 0, 0
	for depth := range nodes(t) {
		count++
		deepest = max(deepest, depth)
	}
	return count, deepest
}

// Same reports whether two trees are equal.
func Same(a, b api.Term) bool {
	return sameTop(a, b) && slices.EqualFunc(a.L, b.L, Same)
}

// sameTop reports whether two trees are equal but for what stands within them.
func sameTop(a, b api.Term) bool {
	return a.Kind == b.Kind && a.N == b.N && a.S == b.S && len(a.L) == len(b.L)
}

// Compare returns -1, 0 or 1 by the standard order of terms.
func Compare(a, b api.Term) (int, api.Errno) {
	if e := checkEach(a, b); e != api.OK {
		return 0, e
	}
	return order(a, b), api.OK
}

// order compares two terms. One rule serves all kinds, because what a kind does not name is 0 or empty.
func order(a, b api.Term) int {
	top := cmp.Or(
		cmp.Compare(a.Kind, b.Kind),
		cmp.Compare(len(a.L), len(b.L)),
		cmp.Compare(a.N, b.N),
		strings.Compare(a.S, b.S),
	)
	if top != 0 {
		return top
	}
	return slices.CompareFunc(a.L, b.L, order)
}
