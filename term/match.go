package term

import "riparian/api"

// Normal returns terms with their variables numbered anew, and which variable each number was.
func Normal(l []api.Term) ([]api.Term, []int, api.Errno) {
	vars, e := Vars(l)
	if e != api.OK {
		return nil, nil, e
	}
	number := map[int]int{}
	for i, v := range vars {
		number[v] = i
	}
	anew := func(v int) int { return number[v] }
	return copyEach(l, func(t api.Term) api.Term { return rename(t, anew) }), vars, api.OK
}

// Variant reports whether two terms differ by names of variables alone.
func Variant(a, b api.Term) (bool, api.Errno) {
	normalA, _, e := Normal([]api.Term{a})
	if e != api.OK {
		return false, e
	}
	normalB, _, e := Normal([]api.Term{b})
	if e != api.OK {
		return false, e
	}
	return Same(normalA[0], normalB[0]), api.OK
}

// Match returns what is put in the place of the variables of p so that it becomes t, and whether there is something.
func Match(p, t api.Term) ([]api.Term, bool, api.Errno) {
	if e := checkEach(p, t); e != api.OK {
		return nil, false, e
	}
	found := make([]api.Term, highest(p)+1)
	if !match(p, t, found) {
		return nil, false, api.OK
	}
	return copyEach(found, copyTerm), true, api.OK
}

// highest returns the greatest variable of a term; -1, if it has none.
func highest(t api.Term) int {
	most := -1
	for _, node := range nodes(t) {
		if node.Kind == api.KVar {
			most = max(most, node.N)
		}
	}
	return most
}

// match notes in found which parts of t the variables of p stand for; false, if t is no instance of p.
func match(p, t api.Term, found []api.Term) bool {
	if p.Kind == api.KVar {
		if found[p.N].Kind == 0 {
			found[p.N] = t
		}
		return Same(found[p.N], t)
	}
	if !sameTop(p, t) {
		return false
	}
	for i, x := range p.L {
		if !match(x, t.L[i], found) {
			return false
		}
	}
	return true
}
