package term

import (
	"iter"

	"riparian/api"
)

// nodes goes through the nodes of a tree in the order of their places, each with how deep it lies (the tree itself at 1).
func nodes(t api.Term) iter.Seq2[int, api.Term] {
	return func(yield func(int, api.Term) bool) { visit(t, 1, yield) }
}

// visit yields a tree that lies at a depth, and what stands within it; it reports whether to go on.
func visit(t api.Term, depth int, yield func(int, api.Term) bool) bool {
	if !yield(depth, t) {
		return false
	}
	for _, x := range t.L {
		if !visit(x, depth+1, yield) {
			return false
		}
	}
	return true
}

// places goes through the nodes of a tree with their places. A place is good until the next one: who keeps it copies it.
func places(t api.Term) iter.Seq2[[]int, api.Term] {
	return func(yield func([]int, api.Term) bool) {
		var place []int
		for depth, node := range nodes(t) {
			place = nextPlace(place, depth)
			if !yield(place, node) {
				return
			}
		}
	}
}

// nextPlace returns the place that follows one, in the order of places, where it is known how deep the node there lies. It writes over the one ahead.
func nextPlace(place []int, depth int) []int {
	within := depth - 1
	if within > len(place) {
		return append(place, 0)
	}
	if within > 0 {
		place[within-1]++
	}
	return place[:within]
}

// copyTerm returns the term in memory of its own.
func copyTerm(t api.Term) api.Term {
	t.L = copyEach(t.L, copyTerm)
	return t
}

// copyEach returns a new list with what is made of each element.
func copyEach[T, U any](l []T, made func(T) U) []U {
	if len(l) == 0 {
		return nil
	}
	out := make([]U, len(l))
	for i, x := range l {
		out[i] = made(x)
	}
	return out
}

// copyList returns the list in memory of its own.
func copyList[T any](l []T) []T { return append([]T(nil), l...) }
