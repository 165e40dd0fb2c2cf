package data

import "riparian/api"

func integer(n int) api.Term       { return api.Term{Kind: api.KInt, N: n} }
func text(s string) api.Term       { return api.Term{Kind: api.KStr, S: s} }
func vector(l []api.Term) api.Term { return api.Term{Kind: api.KVec, L: l} }

// isIndex reports whether i is the index of one of n elements.
func isIndex(i, n int) bool { return i >= 0 && i < n }

// copyTerm returns the term in memory of its own.
func copyTerm(t api.Term) api.Term {
	t.L = copyEach(t.L)
	return t
}

// copyEach returns terms in memory of their own.
func copyEach(l []api.Term) []api.Term {
	if len(l) == 0 {
		return nil
	}
	out := make([]api.Term, len(l))
	for i, t := range l {
		out[i] = copyTerm(t)
	}
	return out
}
