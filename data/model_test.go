package data_test

import (
	"slices"
	"strings"

	"riparian/api"
	"riparian/term"
	"riparian/unify"
)

// This file has the chapter's words, one by one: the rows of its table, and a pool that keeps all versions whole, with the tree of each family.

// row is a row of the chapter's table: the letters of all arguments, those of the inputs ahead, and what stands in the columns behind, where each letter has its value (an input's is its value, all others are as they stand).
type row struct {
	name, args, inputs string
	holds              func(v map[byte]api.Term) bool
	equal              func(v map[byte]api.Term) []api.Term
}

// kind is the kind of an input.
func (r row) kind(i int) int {
	return map[byte]int{'V': api.KVec, 'S': api.KStr, 'A': api.KStr, 'B': api.KStr, 'I': api.KInt, 'N': api.KInt, 'C': api.KInt}[r.inputs[i]]
}

func always(map[byte]api.Term) bool { return true }

// within is the condition of indices: of the letter that is given.
func within(of byte) func(v map[byte]api.Term) bool {
	return func(v map[byte]api.Term) bool { return 0 <= v['I'].N && v['I'].N < len(v[of].L)+len(v[of].S) }
}

var rows = []row{
	{"vector_new", "NV", "N", func(v map[byte]api.Term) bool { return 0 <= v['N'].N && v['N'].N <= 64 }, func(v map[byte]api.Term) []api.Term {
		return []api.Term{v['V'], vec(many(v['N'].N, integer(0))...)}
	}},
	{"vector_size", "VNW", "V", always, func(v map[byte]api.Term) []api.Term {
		return []api.Term{v['N'], integer(len(v['V'].L)), v['W'], v['V']}
	}},
	{"vector_get", "VIXW", "VI", within('V'), func(v map[byte]api.Term) []api.Term {
		return []api.Term{v['X'], v['V'].L[v['I'].N], v['W'], v['V']}
	}},
	{"vector_set", "VIXW", "VI", within('V'), func(v map[byte]api.Term) []api.Term {
		i, l := v['I'].N, v['V'].L
		return []api.Term{v['W'], vec(slices.Concat(l[:i], []api.Term{v['X']}, l[i+1:])...)}
	}},
	{"string_new", "NS", "N", func(v map[byte]api.Term) bool { return 0 <= v['N'].N && v['N'].N <= 255 }, func(v map[byte]api.Term) []api.Term {
		return []api.Term{v['S'], str(string(make([]byte, v['N'].N)))}
	}},
	{"string_size", "SNT", "S", always, func(v map[byte]api.Term) []api.Term {
		return []api.Term{v['N'], integer(len(v['S'].S)), v['T'], v['S']}
	}},
	{"string_get", "SICT", "SI", within('S'), func(v map[byte]api.Term) []api.Term {
		return []api.Term{v['C'], integer(int(v['S'].S[v['I'].N])), v['T'], v['S']}
	}},
	{"string_set", "SICT", "SIC", func(v map[byte]api.Term) bool {
		return within('S')(v) && 0 <= v['C'].N && v['C'].N <= 255
	}, func(v map[byte]api.Term) []api.Term {
		i, s := v['I'].N, v['S'].S
		return []api.Term{v['T'], str(strings.Join([]string{s[:i], s[i+1:]}, string([]byte{byte(v['C'].N)})))}
	}},
	{"string_join", "ABT", "AB", func(v map[byte]api.Term) bool { return len(v['A'].S)+len(v['B'].S) <= 255 }, func(v map[byte]api.Term) []api.Term {
		return []api.Term{v['T'], str(v['A'].S + v['B'].S)}
	}},
}

// rowOf is the row of an operation; false, if a tree is none.
func rowOf(t api.Term) (row, bool) {
	for _, r := range rows {
		if t.Kind == api.KFun && t.S == r.name && len(t.L) == len(r.args) {
			return r, true
		}
	}
	return row{}, false
}

// doOf is what an operation does.
func doOf(s api.Store, t api.Term) reply {
	if e := unify.Check(s); e != api.OK {
		return fails(e)
	}
	if _, e := unify.Value(s, t); e != api.OK {
		return fails(e)
	}
	r, is := rowOf(t)
	if !is {
		return fails(api.ErrOp)
	}
	v := map[byte]api.Term{}
	var unbound []int
	wrong := false
	for i := range r.args {
		v[r.args[i]] = t.L[i]
		if i >= len(r.inputs) {
			continue
		}
		value, _ := unify.Value(s, t.L[i])
		v[r.args[i]] = value
		wrong = wrong || value.Kind != api.KVar && value.Kind != r.kind(i)
		if value.Kind == api.KVar && !slices.Contains(unbound, value.N) {
			unbound = append(unbound, value.N)
		}
	}
	switch {
	case wrong:
		return no()
	case len(unbound) > 0:
		return waits(unbound...)
	case !r.holds(v):
		return no()
	}
	out := yes()
	sides := r.equal(v)
	for i := 0; i < len(sides); i += 2 {
		if term.Check(sides[i]) != api.OK || term.Check(sides[i+1]) != api.OK {
			return fails(api.ErrLimit)
		}
		out.Equal = append(out.Equal, eq(sides[i], sides[i+1]))
	}
	return out
}

// whole is a version: its elements, and the one of which it came (-1: it was made).
type whole struct {
	elements []api.Term
	parent   int
}

// pool is a pool that keeps all versions whole.
type pool struct {
	versions []whole
	currents map[int]int // by the roots of families
	cost     int
}

func newPool() *pool { return &pool{currents: map[int]int{}} }

// line are a version and those of which it came, up to the root of its family.
func (p *pool) line(v int) []int {
	out := []int{v}
	for p.versions[v].parent >= 0 {
		v = p.versions[v].parent
		out = append(out, v)
	}
	return out
}

func (p *pool) root(v int) int {
	l := p.line(v)
	return l[len(l)-1]
}

// distance is how many edges there are between two versions of a family.
func (p *pool) distance(v, u int) int {
	l, m := p.line(v), p.line(u)
	for len(l) > 0 && len(m) > 0 && l[len(l)-1] == m[len(m)-1] {
		l, m = l[:len(l)-1], m[:len(m)-1]
	}
	return len(l) + len(m)
}

func (p *pool) isVersion(v int) bool { return v >= 0 && v < len(p.versions) }

// has is the error of an element that is asked for.
func (p *pool) has(v, i int) api.Errno {
	switch {
	case !p.isVersion(v):
		return api.ErrVersion
	case i < 0 || i >= len(p.versions[v].elements):
		return api.ErrArg
	}
	return api.OK
}

func (p *pool) make(l []api.Term) (int, api.Errno) {
	if len(l) > api.MaxVec {
		return 0, api.ErrArg
	}
	for _, t := range l {
		if term.Check(t) != api.OK {
			return 0, api.ErrTerm
		}
	}
	if len(p.versions) == api.MaxVersions {
		return 0, api.ErrLimit
	}
	v := len(p.versions)
	p.versions = append(p.versions, whole{slices.Clone(l), -1})
	p.currents[v] = v
	p.cost += len(l)
	return v, api.OK
}

// use counts what the use of a version costs, and makes another one the current one.
func (p *pool) use(v, current int) {
	root := p.root(v)
	p.cost += p.distance(v, p.currents[root]) + 1
	p.currents[root] = current
}

func (p *pool) get(v, i int) (api.Term, api.Errno) {
	if e := p.has(v, i); e != api.OK {
		return none, e
	}
	p.use(v, v)
	return p.versions[v].elements[i], api.OK
}

func (p *pool) set(v, i int, x api.Term) (int, api.Errno) {
	if e := p.has(v, i); e != api.OK {
		return 0, e
	}
	if term.Check(x) != api.OK {
		return 0, api.ErrTerm
	}
	if len(p.versions) == api.MaxVersions {
		return 0, api.ErrLimit
	}
	u := len(p.versions)
	l := slices.Clone(p.versions[v].elements)
	l[i] = x
	p.versions = append(p.versions, whole{l, v})
	p.use(v, u)
	return u, api.OK
}
