package term

import "riparian/api"

// Paths returns the places of all nodes of a term.
func Paths(t api.Term) ([][]int, api.Errno) {
	if e := checkEach(t); e != api.OK {
		return nil, e
	}
	var out [][]int
	for place := range places(t) {
		out = append(out, copyList(place))
	}
	return out, api.OK
}

// At returns the node at a place.
func At(t api.Term, path []int) (api.Term, api.Errno) {
	if e := checkEach(t); e != api.OK {
		return api.Term{}, e
	}
	node := nodeAt(&t, path)
	if node == nil {
		return api.Term{}, api.ErrPath
	}
	return copyTerm(*node), api.OK
}

// Put returns a term with another node at a place.
func Put(t api.Term, path []int, x api.Term) (api.Term, api.Errno) {
	if e := checkEach(t, x); e != api.OK {
		return api.Term{}, e
	}
	out := copyTerm(t)
	node := nodeAt(&out, path)
	if node == nil {
		return api.Term{}, api.ErrPath
	}
	*node = copyTerm(x)
	return limited(out)
}

// Inside returns the first place at which x stands in t.
func Inside(t, x api.Term) ([]int, bool, api.Errno) {
	if e := checkEach(t, x); e != api.OK {
		return nil, false, e
	}
	for place, node := range places(t) {
		if Same(node, x) {
			return copyList(place), true, api.OK
		}
	}
	return nil, false, api.OK
}

// nodeAt returns where the node at a place lies; nil, if there is none.
func nodeAt(t *api.Term, path []int) *api.Term {
	for _, i := range path {
		if i < 0 || i >= len(t.L) {
			return nil
		}
		t = &t.L[i]
	}
	return t
}

// limited returns what was made of terms; ErrLimit, if it has become too large for a term.
func limited(t api.Term) (api.Term, api.Errno) {
	if checkEach(t) != api.OK {
		return api.Term{}, api.ErrLimit
	}
	return t, api.OK
}
