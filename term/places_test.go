package term_test

import (
	"math/rand"
	"slices"
	"testing"

	"riparian/api"
	"riparian/term"
)

// TestP1_3_Paths: one for each node, in order.
func TestP1_3_Paths(t *testing.T) {
	for i, c := range []struct {
		t    api.Term
		want [][]int
	}{
		{a, [][]int{{}}}, {vec(), [][]int{{}}},
		{fun("f", x, list(empty, a)), [][]int{{}, {0}, {1}, {1, 0}, {1, 1}}},
		{vec(fun("f", fun("g", a), b), c, vec(x)), [][]int{{}, {0}, {0, 0}, {0, 0, 0}, {0, 1}, {1}, {2}, {2, 0}}},
	} {
		if got, e := term.Paths(c.t); !slices.EqualFunc(got, c.want, slices.Equal) || e != api.OK {
			t.Errorf("%d: %v, error %d", i, got, e)
		}
	}
	for i, w := range bad() {
		if got, e := term.Paths(w); len(got) != 0 || e != api.ErrTerm {
			t.Errorf("bad %d: %d places, error %d", i, len(got), e)
		}
	}
}

// missing are places at which fun("f", x, list(empty, a)) has nothing.
func missing() [][]int {
	return [][]int{{2}, {-1}, {0, 0}, {1, 2}, {1, 0, 0}, {1, -1}, {1 << 62}, {-1 << 63}, {3, 0}}
}

// TestP1_3_At: the node at a place, or ErrPath.
func TestP1_3_At(t *testing.T) {
	s := fun("f", x, list(empty, a))
	for i, c := range []struct {
		place []int
		want  api.Term
	}{{nil, s}, {[]int{}, s}, {[]int{0}, x}, {[]int{1}, list(empty, a)}, {[]int{1, 0}, a}, {[]int{1, 1}, empty}} {
		got, e := term.At(s, c.place)
		if e != api.OK || !equal(got, c.want) {
			t.Errorf("%d: %v, error %d", i, got, e)
		}
	}
	for _, place := range missing() {
		got, e := term.At(s, place)
		wantNoTerm(t, "At", got, e, api.ErrPath)
	}
	for _, w := range bad() {
		got, e := term.At(w, []int{9})
		wantNoTerm(t, "At", got, e, api.ErrTerm)
	}
}

// TestP1_3_Put: another node at a place; the errors in their order.
func TestP1_3_Put(t *testing.T) {
	s := fun("f", x, a)
	got, e := term.Put(s, []int{1}, fun("g", x))
	wantTerm(t, "at 1", got, e, fun("f", x, fun("g", x)))
	got, e = term.Put(s, nil, b)
	wantTerm(t, "at the term itself", got, e, b)
	got, e = term.Put(vec(a, list(empty, a), c), []int{1, 1}, list(y, b))
	wantTerm(t, "within", got, e, vec(a, list(y, a, b), c))
	got, e = term.Put(chain(599, x), make([]int, 598), fun("g", a))
	wantTerm(t, "600 deep", got, e, chain(599, fun("g", a)))
	got, e = term.Put(broad(4000), []int{0, 0}, b)
	if nodes, _ := term.Size(got); nodes != 4000 || e != api.OK {
		t.Errorf("4000 nodes: %d, error %d", nodes, e)
	}
	got, e = term.Put(broad(4000), []int{0, 0}, fun("g", a))
	wantNoTerm(t, "4001 nodes", got, e, api.ErrLimit)
	got, e = term.Put(chain(600, x), make([]int, 599), fun("g", a))
	wantNoTerm(t, "601 deep", got, e, api.ErrLimit)
	got, e = term.Put(s, []int{2}, broad(4000))
	wantNoTerm(t, "no place, and too large", got, e, api.ErrPath)
	for _, place := range missing() {
		got, e = term.Put(fun("f", x, list(empty, a)), place, b)
		wantNoTerm(t, "no place", got, e, api.ErrPath)
	}
	for _, w := range bad() {
		got, e = term.Put(s, []int{2}, w)
		wantNoTerm(t, "bad, and no place", got, e, api.ErrTerm)
		got, e = term.Put(w, nil, a)
		wantNoTerm(t, "in a bad one", got, e, api.ErrTerm)
	}
}

// TestP1_3_Inside: the first place of a node that is equal, not just one that has it within.
func TestP1_3_Inside(t *testing.T) {
	for i, c := range []struct {
		t, x  api.Term
		place []int
		is    bool
	}{
		{fun("f", a, fun("g", a)), a, []int{0}, true}, {fun("f", fun("g", a), a), a, []int{0, 0}, true}, {fun("f", b, fun("g", a), a), a, []int{1, 0}, true},
		{a, a, nil, true}, {fun("f", a), fun("f", a), nil, true}, {fun("f", a), a, []int{0}, true}, {fun("f", x, y), y, []int{1}, true},
		{fun("f", a), b, nil, false}, {fun("f", x), y, nil, false}, {a, fun("f", a), nil, false}, {vec(str("a"), integer(1)), a, nil, false},
		{fun("f", fun("f", a), fun("f", b)), fun("f", b), []int{1}, true},
	} {
		place, is, e := term.Inside(c.t, c.x)
		if !slices.Equal(place, c.place) || is != c.is || e != api.OK {
			t.Errorf("%d: %v, %v, error %d", i, place, is, e)
		}
	}
	for i, w := range bad() {
		for _, pair := range [][2]api.Term{{w, a}, {a, w}, {w, w}} {
			if place, is, e := term.Inside(pair[0], pair[1]); len(place) != 0 || is || e != api.ErrTerm {
				t.Errorf("bad %d: %v, %v, error %d", i, place, is, e)
			}
		}
	}
}

// TestP1_9_Places: as many as nodes, strictly increasing; what is put is there, and what is elsewhere stays.
func TestP1_9_Places(t *testing.T) {
	r := rand.New(rand.NewSource(9))
	new := fun("new", z, vec())
	for range 200 {
		s := made(r, 4)
		l, e := term.Paths(s)
		nodes, _, _ := weigh(s)
		if e != api.OK || len(l) != nodes {
			t.Fatalf("%v: %d places, error %d", s, len(l), e)
		}
		for i, place := range l {
			if i > 0 && slices.Compare(l[i-1], place) >= 0 {
				t.Fatalf("%v: places %v, %v", s, l[i-1], place)
			}
			at, e := term.At(s, place)
			at = must(t, at, e)
			back, e := term.Put(s, place, at)
			wantTerm(t, "Put of what stands there", back, e, s)
			got, e := term.Put(s, place, new)
			wantStays(t, s, must(t, got, e), place, l)
			found, e := term.At(got, place)
			wantTerm(t, "what was put", found, e, new)
		}
	}
}

// wantStays wants that nodes that are neither around a place nor within it are what they were.
func wantStays(t *testing.T, s, got api.Term, place []int, all [][]int) {
	t.Helper()
	for _, other := range all {
		n := min(len(place), len(other))
		if slices.Equal(place[:n], other[:n]) {
			continue
		}
		was, e := term.At(s, other)
		was = must(t, was, e)
		is, e := term.At(got, other)
		wantTerm(t, "what stands elsewhere", is, e, was)
	}
}

// TestP1_3_First: Inside finds the first of the places of Paths at which At returns the same.
func TestP1_3_First(t *testing.T) {
	r := rand.New(rand.NewSource(3))
	for range 100 {
		s := made(r, 4)
		l, _ := term.Paths(s)
		for _, u := range leaves() {
			first := slices.IndexFunc(l, func(place []int) bool {
				at, _ := term.At(s, place)
				return equal(at, u)
			})
			place, is, e := term.Inside(s, u)
			if e != api.OK || is != (first >= 0) || is && !slices.Equal(place, l[first]) {
				t.Fatalf("%v in %v: %v, %v, error %d", u, s, place, is, e)
			}
		}
	}
}
