package data

import (
	"slices"

	"riparian/api"
	"riparian/term"
)

// Pool has versions of vectors. Of all versions that came of one vector, one is current.
type Pool struct {
	versions []version
	cost     int
}

// NewPool returns an empty pool.
func NewPool() *Pool { return &Pool{} }

// Make adds a vector, and returns its version.
func (p *Pool) Make(l []api.Term) (int, api.Errno) {
	if p == nil || len(l) > api.MaxVec {
		return 0, api.ErrArg
	}
	for _, t := range l {
		if e := term.Check(t); e != api.OK {
			return 0, e
		}
	}
	if p.isFull() {
		return 0, api.ErrLimit
	}
	p.cost += len(l)
	f := &family{current: len(p.versions), elements: copyEach(l)}
	p.versions = append(p.versions, array{f})
	return f.current, api.OK
}

// Get returns an element of a version.
func (p *Pool) Get(v, i int) (api.Term, api.Errno) {
	f, e := p.element(v, i)
	if e != api.OK {
		return api.Term{}, e
	}
	p.use(v)
	return copyTerm(f.elements[i]), api.OK
}

// Set returns a new version, which has x as its element i.
func (p *Pool) Set(v, i int, x api.Term) (int, api.Errno) {
	f, e := p.element(v, i)
	if e != api.OK {
		return 0, e
	}
	if e := term.Check(x); e != api.OK {
		return 0, e
	}
	if p.isFull() {
		return 0, api.ErrLimit
	}
	p.use(v)
	c := &change{family: f, near: v, far: len(p.versions), at: i, element: copyTerm(x)}
	p.versions = append(p.versions, c)
	p.turn(c)
	return f.current, api.OK
}

// Size returns how many elements a version has.
func (p *Pool) Size(v int) (int, api.Errno) {
	f, e := p.family(v)
	if e != api.OK {
		return 0, e
	}
	return len(f.elements), api.OK
}

// Vector returns all elements of a version.
func (p *Pool) Vector(v int) ([]api.Term, api.Errno) {
	f, e := p.family(v)
	if e != api.OK {
		return nil, e
	}
	l := slices.Clone(f.elements)
	for c := range p.changes(v) {
		l[c.at] = c.element
	}
	return copyEach(l), api.OK
}

// Current returns the current version among those that came of the same vector as v.
func (p *Pool) Current(v int) (int, api.Errno) {
	f, e := p.family(v)
	if e != api.OK {
		return 0, e
	}
	return f.current, api.OK
}

// Cost returns how many elements have been read, written and exchanged.
func (p *Pool) Cost() int {
	if p == nil {
		return 0
	}
	return p.cost
}

// isFull reports whether there is no room for another version.
func (p *Pool) isFull() bool { return len(p.versions) >= api.MaxVersions }

// family returns the family of a version; ErrVersion, if there is none such.
func (p *Pool) family(v int) (*family, api.Errno) {
	if p == nil || !isIndex(v, len(p.versions)) {
		return nil, api.ErrVersion
	}
	return p.versions[v].of(), api.OK
}

// element returns the family of a version that has an element i; otherwise ErrVersion, or ErrArg.
func (p *Pool) element(v, i int) (*family, api.Errno) {
	f, e := p.family(v)
	if e != api.OK {
		return nil, e
	}
	if !isIndex(i, len(f.elements)) {
		return nil, api.ErrArg
	}
	return f, api.OK
}
