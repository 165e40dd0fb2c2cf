package data

import (
	"iter"
	"slices"

	"riparian/api"
)

// family is the versions that came of one vector: which one is current, and the elements of that one. They are written over in place when another one becomes current.
type family struct {
	current  int
	elements []api.Term
}

// of returns the family.
func (f *family) of() *family { return f }

// version is how a version is stored: an array, or a change.
type version interface{ of() *family }

// array is the current version of a family: its elements are those that the family has.
type array struct{ *family }

// change is an edge of a family's tree, stored in the place of its far version: that one differs in one element from the near one, which is the next one on the way to the current version.
type change struct {
	*family
	near, far int
	at        int
	element   api.Term
}

// changes goes from the current version of a family to v, edge by edge. The way is found ahead of the first one, so each edge can be turned when it is reached.
func (p *Pool) changes(v int) iter.Seq[*change] {
	return func(yield func(*change) bool) {
		for _, c := range slices.Backward(p.way(v)) {
			if !yield(c) {
				return
			}
		}
	}
}

// way returns the edges from v to the current version of its family.
func (p *Pool) way(v int) []*change {
	var out []*change
	for {
		switch x := p.versions[v].(type) {
		case *change:
			out = append(out, x)
			v = x.near
		case array:
			return out
		}
	}
}

// use makes a version the current one of its family, and counts what that costs, and the call that uses it.
func (p *Pool) use(v int) {
	for c := range p.changes(v) {
		p.turn(c)
		p.cost++
	}
	p.cost++
}

// turn makes the far version of an edge current, where the near one is: the element goes into the array, what stood there into the edge, and both versions exchange how they are stored.
func (p *Pool) turn(c *change) {
	c.elements[c.at], c.element = c.element, c.elements[c.at]
	p.versions[c.near], p.versions[c.far] = c, p.versions[c.near]
	c.near, c.far = c.far, c.near
	c.current = c.near
}
