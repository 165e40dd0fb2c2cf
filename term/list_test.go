package term_test

import (
	"math/rand"
	"testing"

	"riparian/api"
	"riparian/term"
)

// repeat returns a list of the same term, so many times.
func repeat(n int, s api.Term) []api.Term {
	var out []api.Term
	for range n {
		out = append(out, s)
	}
	return out
}

// TestP1_6_List: cells from items and a tail; ErrLimit where they are too many, or too deep.
func TestP1_6_List(t *testing.T) {
	got, e := term.List([]api.Term{a, integer(2)}, x)
	wantTerm(t, "two items", got, e, fun(".", a, fun(".", integer(2), x)))
	got, e = term.List(nil, empty)
	wantTerm(t, "no items", got, e, empty)
	got, e = term.List([]api.Term{a}, list(empty, b))
	wantTerm(t, "a list as the tail", got, e, list(empty, a, b))
	got, e = term.List(repeat(599, a), empty)
	wantTerm(t, "600 deep", got, e, list(empty, repeat(599, a)...))
	got, e = term.List(repeat(600, a), empty)
	wantNoTerm(t, "601 deep", got, e, api.ErrLimit)
	got, e = term.List([]api.Term{a, chain(599, a)}, empty)
	wantNoTerm(t, "601 deep in an item", got, e, api.ErrLimit)
	got, e = term.List([]api.Term{chain(599, a), a}, empty)
	if e != api.OK || got.L[1].L[0].S != "a" {
		t.Errorf("600 deep in an item: error %d", e)
	}
	got, e = term.List([]api.Term{broad(3998)}, empty)
	wantTerm(t, "4000 nodes", got, e, list(empty, broad(3998)))
	got, e = term.List([]api.Term{broad(3998)}, broad(2))
	wantNoTerm(t, "4001 nodes", got, e, api.ErrLimit)
	got, e = term.List([]api.Term{broad(4000)}, broad(4000))
	wantNoTerm(t, "the tail is not one of the terms together", got, e, api.ErrLimit)
	got, e = term.List([]api.Term{broad(4000), a}, empty)
	wantNoTerm(t, "not terms together", got, e, api.ErrTerm)
	for _, w := range bad() {
		got, e = term.List([]api.Term{a, w}, empty)
		wantNoTerm(t, "bad item", got, e, api.ErrTerm)
		got, e = term.List(repeat(700, a), w)
		wantNoTerm(t, "bad tail", got, e, api.ErrTerm)
	}
}

// TestP1_6_Items: what stands in cells, and what stands behind them.
func TestP1_6_Items(t *testing.T) {
	for name, c := range map[string]struct {
		t     api.Term
		items []api.Term
		tail  api.Term
	}{
		"a list":                                 {list(empty, a, x), []api.Term{a, x}, empty},
		"a tail that is a variable":              {list(x, a, b), []api.Term{a, b}, x},
		"no cell":                                {a, nil, a},
		"the empty list":                         {empty, nil, empty},
		"a list as an item":                      {list(empty, list(empty, a), b), []api.Term{list(empty, a), b}, empty},
		"one element":                            {fun(".", a), nil, fun(".", a)},
		"three elements":                         {fun(".", a, b, c), nil, fun(".", a, b, c)},
		"another name":                           {fun("f", a, b), nil, fun("f", a, b)},
		"a vector":                               {vec(a, empty), nil, vec(a, empty)},
		"a cell with a tail that looks like one": {list(fun(".", b), a), []api.Term{a}, fun(".", b)},
		"the longest one":                        {list(empty, repeat(599, a)...), repeat(599, a), empty},
	} {
		items, tail, e := term.Items(c.t)
		if e != api.OK || !equalAll(items, c.items) || !equal(tail, c.tail) {
			t.Errorf("%s: %v, %v, error %d", name, items, tail, e)
		}
	}
	for i, w := range append(bad(), list(free, a)) {
		items, tail, e := term.Items(w)
		if len(items) != 0 || !equal(tail, free) || e != api.ErrTerm {
			t.Errorf("bad %d: %d items, error %d", i, len(items), e)
		}
	}
}

// TestP1_13_Lists: there and back.
func TestP1_13_Lists(t *testing.T) {
	r := rand.New(rand.NewSource(13))
	for range 1000 {
		var items []api.Term
		for range r.Intn(6) {
			items = append(items, made(r, 3))
		}
		tail := leaves()[r.Intn(len(leaves()))]
		s, e := term.List(items, tail)
		got, end, e2 := term.Items(must(t, s, e))
		wantTerms(t, "items", got, e2, items...)
		wantTerm(t, "tail", end, e2, tail)
	}
	for _, s := range small() {
		items, tail, e := term.Items(s)
		if e != api.OK {
			t.Fatalf("error %d", e)
		}
		back, e := term.List(items, tail)
		wantTerm(t, "List of Items", back, e, s)
	}
}
