package data_test

import (
	"fmt"
	"math"
	"slices"
	"testing"

	"riparian/api"
	"riparian/data"
	"riparian/unify"
)

// seen is all that a pool shows of a version without a change.
type seen struct {
	size, current, cost int
	elements            []api.Term
	e                   [3]api.Errno
}

func look(p *data.Pool, v int) seen {
	out := seen{cost: p.Cost()}
	out.size, out.e[0] = p.Size(v)
	out.elements, out.e[1] = p.Vector(v)
	out.current, out.e[2] = p.Current(v)
	return out
}

// wantSeen wants what a pool shows of a version, and that looking at it changes nothing.
func wantSeen(t *testing.T, name string, p *data.Pool, v int, elements []api.Term, current, cost int) {
	t.Helper()
	for range 2 {
		got := look(p, v)
		if got.size != len(elements) || !equalAll(got.elements, elements) || got.current != current || got.cost != cost || got.e != [3]api.Errno{} {
			t.Errorf("%s: version %d: got %v, want %v, current %d, cost %d", brief(name), v, brief(fmt.Sprint(got)), brief(fmt.Sprint(elements)), current, cost)
		}
	}
}

func made(t *testing.T, p *data.Pool, l ...api.Term) int {
	t.Helper()
	v, e := p.Make(l)
	want(t, "Make", e, api.OK)
	return v
}

func set(t *testing.T, p *data.Pool, v, i int, x api.Term) int {
	t.Helper()
	u, e := p.Set(v, i, x)
	want(t, "Set", e, api.OK)
	return u
}

// wantGet wants an element, and what it costs.
func wantGet(t *testing.T, name string, p *data.Pool, v, i int, x api.Term, cost int) {
	t.Helper()
	before := p.Cost()
	got, e := p.Get(v, i)
	if e != api.OK || !equal(got, x) || p.Cost()-before != cost {
		t.Errorf("%s: Get %d, %d: got %v, error %d, cost %d, want %v, cost %d", name, v, i, brief(fmt.Sprint(got)), e, p.Cost()-before, brief(fmt.Sprint(x)), cost)
	}
	current, e := p.Current(v)
	want(t, name+": current", current, v)
	want(t, name+": current", e, api.OK)
}

// TestP6_3_Examples: the chapter's examples, costs included (P6.4).
func TestP6_3_Examples(t *testing.T) {
	p := data.NewPool()
	want(t, "an empty pool", p.Cost(), 0)
	want(t, "Make", made(t, p, a, b), 0)
	want(t, "Set", set(t, p, 0, 1, c), 1)
	wantGet(t, "the first one", p, 0, 1, b, 2)
	wantGet(t, "the second one", p, 1, 1, c, 2)
	wantSeen(t, "the first one", p, 0, []api.Term{a, b}, 1, 7)
	wantSeen(t, "the second one", p, 1, []api.Term{a, c}, 1, 7)
	want(t, "Set", set(t, p, 0, 0, d), 2)
	wantSeen(t, "the third one", p, 2, []api.Term{d, b}, 2, 9)
	wantSeen(t, "the first one", p, 0, []api.Term{a, b}, 2, 9)
	wantSeen(t, "the second one", p, 1, []api.Term{a, c}, 2, 9)
}

// TestP6_3_Sizes: vectors of 0, 1, 63 and 64 elements, each of which is read and set.
func TestP6_3_Sizes(t *testing.T) {
	for _, size := range []int{0, 1, 2, 63, 64} {
		p := data.NewPool()
		l := many(size, a)
		for i := range l {
			l[i] = integer(i)
		}
		v := made(t, p, l...)
		wantSeen(t, "made", p, v, l, v, size)
		for _, i := range []int{-api.MaxInt, -64, -1, size, size + 1, 64, math.MaxInt, math.MinInt} {
			_, e := p.Get(v, i)
			want(t, fmt.Sprint("Get ", i), e, api.ErrArg)
			_, e = p.Set(v, i, a)
			want(t, fmt.Sprint("Set ", i), e, api.ErrArg)
		}
		wantSeen(t, "behind errors", p, v, l, v, size)
		for i := range size {
			wantGet(t, "an element", p, v, i, integer(i), 1)
			v = set(t, p, v, i, fun("f", integer(i)))
			l[i] = fun("f", integer(i))
			wantSeen(t, "set", p, v, l, v, size+2*i+2)
		}
	}
}

// TestP6_3_Elements: elements are terms, of any kind and size, and not together; variables stay variables.
func TestP6_3_Elements(t *testing.T) {
	p := data.NewPool()
	l := []api.Term{x, variable(api.MaxVar - 1), integer(-api.MaxInt), str("\x00"), vec(), fun("f", y, vec(x)), broad(4000), broad(4000), chain(600, z)}
	v := made(t, p, l...)
	wantSeen(t, "made", p, v, l, v, len(l))
	for i, e := range l {
		wantGet(t, "an element", p, v, i, e, 1)
	}
	u := set(t, p, v, 0, broad(4000))
	wantGet(t, "set", p, u, 0, broad(4000), 1)
	full := made(t, p, many(64, broad(4000))...)
	wantGet(t, "64 large ones", p, full, 63, broad(4000), 1)
	same := set(t, p, full, 63, broad(4000))
	want(t, "what is set is a new version, also where it stood there", same != full, true)
	wantGet(t, "what stood there", p, full, 63, broad(4000), 2)
}

// TestP6_3_Errors: which error comes first; nothing is changed by a call with one, and nothing is counted.
func TestP6_3_Errors(t *testing.T) {
	p := data.NewPool()
	for _, v := range []int{0, 1, -1, math.MaxInt, math.MinInt} {
		wantNoVersion(t, p, v)
	}
	first, second := made(t, p, a, b), made(t, p)
	third := set(t, p, first, 0, c)
	fourth := set(t, p, first, 1, c)
	cost := p.Cost()
	check := func(name string) {
		t.Helper()
		wantSeen(t, name, p, first, []api.Term{a, b}, fourth, cost)
		wantSeen(t, name, p, second, nil, second, cost)
		wantSeen(t, name, p, third, []api.Term{c, b}, fourth, cost)
		wantSeen(t, name, p, fourth, []api.Term{a, c}, fourth, cost)
		wantNoVersion(t, p, fourth+1)
	}
	check("ahead")
	for _, v := range []int{-1, fourth + 1, 7, math.MaxInt, math.MinInt} {
		wantNoVersion(t, p, v)
		check("no version")
	}
	for _, v := range []int{first, third} {
		for _, i := range []int{-1, 2, 64, math.MaxInt, math.MinInt} {
			_, e := p.Get(v, i)
			want(t, "Get without an index", e, api.ErrArg)
			for _, x := range []api.Term{a, none} {
				u, e := p.Set(v, i, x)
				want(t, "Set without an index", e, api.ErrArg)
				want(t, "Set without an index", u, 0)
			}
		}
		for _, bad := range badTerms() {
			u, e := p.Set(v, 1, bad)
			want(t, "Set of no term", e, api.ErrTerm)
			want(t, "Set of no term", u, 0)
		}
		check("errors of elements")
	}
	for _, i := range []int{-1, 0, 1} {
		got, e := p.Get(second, i)
		want(t, "Get without elements", e, api.ErrArg)
		want(t, "Get without elements", equal(got, none), true)
		_, e = p.Set(second, i, none)
		want(t, "Set without elements", e, api.ErrArg)
	}
	for _, bad := range badTerms() {
		for _, l := range [][]api.Term{{bad}, {a, bad}, {bad, a}, append(many(63, a), bad)} {
			u, e := p.Make(l)
			want(t, "Make of no term", e, api.ErrTerm)
			want(t, "Make of no term", u, 0)
		}
		_, e := p.Make(append(many(64, a), bad))
		want(t, "Make of too many", e, api.ErrArg)
	}
	u, e := p.Make(many(65, a))
	want(t, "Make of too many", e, api.ErrArg)
	want(t, "Make of too many", u, 0)
	check("Make")
}

// wantNoVersion wants ErrVersion, and nothing beside it, from all methods that take a version.
func wantNoVersion(t *testing.T, p *data.Pool, v int) {
	t.Helper()
	for _, i := range []int{0, -1, 64} {
		got, e := p.Get(v, i)
		want(t, "Get", e, api.ErrVersion)
		want(t, "Get", equal(got, none), true)
		for _, x := range []api.Term{a, none} {
			u, e := p.Set(v, i, x)
			want(t, "Set", e, api.ErrVersion)
			want(t, "Set", u, 0)
		}
	}
	got := look(p, v)
	want(t, "what is seen", got.e, [3]api.Errno{api.ErrVersion, api.ErrVersion, api.ErrVersion})
	want(t, "what is seen", got.size == 0 && len(got.elements) == 0 && got.current == 0, true)
}

// TestP6_3_Nil: a nil Pool.
func TestP6_3_Nil(t *testing.T) {
	var p *data.Pool
	for _, v := range []int{0, -1, 1} {
		wantNoVersion(t, p, v)
	}
	for _, l := range [][]api.Term{nil, {a}, {none}, many(65, a)} {
		v, e := p.Make(l)
		want(t, "Make", e, api.ErrArg)
		want(t, "Make", v, 0)
	}
	want(t, "Cost", p.Cost(), 0)
}

// TestP6_3_Limit: 20000 versions, in one family or in many, and no more; all of them go on.
func TestP6_3_Limit(t *testing.T) {
	for name, next := range map[string]func(p *data.Pool, v int) (int, api.Errno){
		"made":           func(p *data.Pool, v int) (int, api.Errno) { return p.Make([]api.Term{integer(v)}) },
		"one by one":     func(p *data.Pool, v int) (int, api.Errno) { return p.Set(v-1, 0, integer(v)) },
		"all of one":     func(p *data.Pool, v int) (int, api.Errno) { return p.Set(0, 0, integer(v)) },
		"of earlier one": func(p *data.Pool, v int) (int, api.Errno) { return p.Set(v/2, 0, integer(v)) },
	} {
		p := data.NewPool()
		want(t, "the first one", made(t, p, integer(0)), 0)
		for v := 1; v < api.MaxVersions; v++ {
			got, e := next(p, v)
			if got != v || e != api.OK {
				t.Fatalf("%s: got version %d, error %d, want %d", name, got, e, v)
			}
		}
		cost := p.Cost()
		last, _ := p.Current(0)
		wantFull(t, name, p)
		want(t, name, p.Cost(), cost)
		current, _ := p.Current(0)
		want(t, name, current, last)
		for _, v := range []int{0, 1, 77, 9999, 19998, 19999, 5000} {
			got, e := p.Get(v, 0)
			want(t, name, e == api.OK && equal(got, integer(v)), true)
		}
		wantFull(t, name, p)
	}
}

// wantFull wants that a pool has no room, and which errors come ahead of that.
func wantFull(t *testing.T, name string, p *data.Pool) {
	t.Helper()
	errno := func(v int, e api.Errno) api.Errno {
		want(t, name+": nothing beside an error", v, 0)
		return e
	}
	want(t, name, errno(p.Make([]api.Term{a})), api.ErrLimit)
	want(t, name, errno(p.Make(nil)), api.ErrLimit)
	want(t, name, errno(p.Make([]api.Term{none})), api.ErrTerm)
	want(t, name, errno(p.Make(many(65, a))), api.ErrArg)
	want(t, name, errno(p.Set(0, 0, a)), api.ErrLimit)
	want(t, name, errno(p.Set(19999, 0, a)), api.ErrLimit)
	want(t, name, errno(p.Set(0, 0, none)), api.ErrTerm)
	want(t, name, errno(p.Set(0, 1, a)), api.ErrArg)
	want(t, name, errno(p.Set(20000, 0, a)), api.ErrVersion)
}

// TestP6_4_Tree: distances in a family that branches: 0 has 1 and 4, 1 has 2, 2 has 3, 4 has 5.
func TestP6_4_Tree(t *testing.T) {
	p := data.NewPool()
	made(t, p, a, b, c)
	cost := 3
	for i, parent := range []int{0, 1, 2, 0, 4} {
		before := p.Cost()
		want(t, "Set", set(t, p, parent, i%3, integer(i)), i+1)
		step := []int{1, 1, 1, 4, 1}[i]
		want(t, fmt.Sprint("the cost of Set ", i), p.Cost()-before, step)
		cost += step
	}
	elements := [][]api.Term{{a, b, c}, {integer(0), b, c}, {integer(0), integer(1), c}, {integer(0), integer(1), integer(2)}, {integer(3), b, c}, {integer(3), integer(4), c}}
	distances := [][]int{{0, 1, 2, 3, 1, 2}, {1, 0, 1, 2, 2, 3}, {2, 1, 0, 1, 3, 4}, {3, 2, 1, 0, 4, 5}, {1, 2, 3, 4, 0, 1}, {2, 3, 4, 5, 1, 0}}
	current := 5
	for _, v := range []int{5, 3, 5, 0, 3, 1, 4, 2, 2, 5, 1, 0, 4, 3, 3, 0, 2, 4, 0, 5, 4, 1, 3, 2, 0} {
		step := distances[current][v] + 1
		wantGet(t, fmt.Sprint("from ", current), p, v, v%3, elements[v][v%3], step)
		current, cost = v, cost+step
		for u, l := range elements {
			wantSeen(t, fmt.Sprint("behind ", v), p, u, l, current, cost)
		}
	}
	other := made(t, p, x)
	wantSeen(t, "another family", p, other, []api.Term{x}, other, cost+1)
	wantSeen(t, "the family", p, 3, elements[3], current, cost+1)
	set(t, p, other, 0, y)
	wantSeen(t, "the family behind a Set of another one", p, 3, elements[3], current, cost+2)
}

// TestP6_4_Model compares pools with one that keeps all versions whole, on calls that are made by chance.
func TestP6_4_Model(t *testing.T) {
	m, _ := chance(64)
	for round := range 150 {
		p, model := data.NewPool(), newPool()
		for range 80 {
			m.call(t, p, model)
			if round%3 == 0 {
				wantModel(t, p, model)
			}
		}
		wantModel(t, p, model)
	}
}

// call makes a call of two pools by chance, and wants that both return the same.
func (m maker) call(t *testing.T, p *data.Pool, model *pool) {
	t.Helper()
	last := len(model.versions)
	v, i, x := m.Intn(last+1), m.Intn(4), m.term(1, 3)
	if m.Intn(2) == 0 {
		v = last - 1 - m.Intn(3)
	}
	if m.Intn(20) == 0 {
		x = pick(m.Rand, badTerms()...)
	}
	if m.Intn(20) == 0 {
		i = pick(m.Rand, -1, 64, math.MaxInt)
	}
	switch m.Intn(12) {
	case 0:
		l := []api.Term{m.term(1, 3), x, m.term(1, 3), b}[:m.Intn(5)]
		got, e := p.Make(l)
		wanted, f := model.make(l)
		want(t, "Make", got == wanted && e == f, true)
	case 1, 2, 3, 4, 5:
		got, e := p.Get(v, i)
		wanted, f := model.get(v, i)
		want(t, "Get", equal(got, wanted) && e == f, true)
	default:
		got, e := p.Set(v, i, x)
		wanted, f := model.set(v, i, x)
		want(t, "Set", got == wanted && e == f, true)
	}
	want(t, "Cost", p.Cost(), model.cost)
}

// wantModel wants that a pool shows what another one has.
func wantModel(t *testing.T, p *data.Pool, model *pool) {
	t.Helper()
	for v, version := range model.versions {
		wantSeen(t, "the model", p, v, version.elements, model.currents[model.root(v)], model.cost)
	}
	wantNoVersion(t, p, len(model.versions))
}

// TestP6_9_Persist: a long family, with all its versions read back and forth, in ways that are far and near.
func TestP6_9_Persist(t *testing.T) {
	m, _ := chance(72)
	p := data.NewPool()
	elements := [][]api.Term{{a, b, c, d}}
	made(t, p, elements[0]...)
	for v := 1; v < 1200; v++ {
		from := v - 1
		if m.Intn(10) == 0 {
			from = m.Intn(v)
		}
		i, x := m.Intn(4), fun("f", integer(v))
		l := slices.Clone(elements[from])
		l[i] = x
		want(t, "Set", set(t, p, from, i, x), v)
		elements = append(elements, l)
	}
	check := func(v int) {
		i := m.Intn(4)
		got, e := p.Get(v, i)
		if e != api.OK || !equal(got, elements[v][i]) {
			t.Errorf("version %d: got %v, error %d, want %v", v, got, e, elements[v][i])
		}
	}
	for v := range elements {
		check(v)
	}
	for range 2000 {
		check(m.Intn(len(elements)))
	}
	for v := len(elements) - 1; v >= 0; v-- {
		check(v)
		got, e := p.Vector(v)
		want(t, "Vector", e == api.OK && equalAll(got, elements[v]), true)
	}
	for v, l := range elements {
		got, e := p.Vector(v)
		want(t, "Vector", e == api.OK && equalAll(got, l), true)
	}
}

// TestP6_10_OneReader: where each call takes the current version, it costs one.
func TestP6_10_OneReader(t *testing.T) {
	m, _ := chance(73)
	for range 40 {
		p := data.NewPool()
		var current, sizes []int
		cost := 0
		for range 200 {
			if len(current) == 0 || m.Intn(20) == 0 {
				size := 1 + m.Intn(64)
				current, sizes = append(current, made(t, p, many(size, a)...)), append(sizes, size)
				cost += size
				continue
			}
			at := m.Intn(len(current))
			i := m.Intn(sizes[at])
			if m.Intn(2) == 0 {
				_, e := p.Get(current[at], i)
				want(t, "Get", e, api.OK)
			} else {
				current[at] = set(t, p, current[at], i, m.term(1, 2))
			}
			cost++
			want(t, "Cost", p.Cost(), cost)
		}
	}
}

// TestP6_10_Long: a family as long as there can be.
func TestP6_10_Long(t *testing.T) {
	p := data.NewPool()
	v := made(t, p, many(64, a)...)
	for n := 1; n < api.MaxVersions; n++ {
		v = set(t, p, v, n%64, integer(n))
		if n%1000 == 0 {
			wantGet(t, "what was set", p, v, n%64, integer(n), 1)
		}
	}
	want(t, "Cost", p.Cost(), 64+api.MaxVersions-1+19)
	wantGet(t, "the first one", p, 0, 63, a, api.MaxVersions)
	wantGet(t, "the first one again", p, 0, 0, a, 1)
	for range 20 {
		wantGet(t, "the last one", p, v, 0, integer(19968), api.MaxVersions)
		wantGet(t, "the first one", p, 0, 0, a, api.MaxVersions)
	}
	wantGet(t, "one between", p, 9999, 9999%64, integer(9999), 10000)
}

// TestP6_11_Bounded: no distance is greater than the number of Sets, and to get twice costs one the second time.
func TestP6_11_Bounded(t *testing.T) {
	m, _ := chance(74)
	farthest := 0
	for range 100 {
		p := data.NewPool()
		sets, last := []int{0, 0, 0}, []int{}
		family := []int{0, 1, 2}
		for f := range sets {
			last = append(last, made(t, p, a, b))
			want(t, "Make", last[f], f)
		}
		for range 120 {
			v := m.Intn(len(family))
			f := family[v]
			before := p.Cost()
			if m.Intn(2) == 0 {
				set(t, p, v, m.Intn(2), c)
				family = append(family, f)
				distance := p.Cost() - before - 1
				want(t, "the distance of a Set", distance >= 0 && distance <= sets[f], true)
				sets[f]++
				continue
			}
			_, e := p.Get(v, m.Intn(2))
			want(t, "Get", e, api.OK)
			distance := p.Cost() - before - 1
			want(t, "the distance of a Get", distance >= 0 && distance <= sets[f], true)
			farthest = max(farthest, distance)
			_, e = p.Get(v, m.Intn(2))
			want(t, "Get again", e, api.OK)
			want(t, "the cost of Get again", p.Cost()-before, distance+2)
		}
	}
	want(t, "distances were seen", farthest > 5, true)
}

// TestP6_12_Terms: a pool and operations on terms give equal elements.
func TestP6_12_Terms(t *testing.T) {
	m, _ := chance(75)
	for range 60 {
		r := newRunner(t, m.store(4))
		p := data.NewPool()
		var versions []api.Term
		for range 40 {
			if len(versions) == 0 || m.Intn(10) == 0 {
				size := 1 + m.Intn(4)
				versions = append(versions, r.out("vector_new", 1, integer(size))[0])
				want(t, "Make", made(t, p, many(size, integer(0))...), len(versions)-1)
				continue
			}
			m.both(r, p, &versions)
		}
		for v, u := range versions {
			l, e := p.Vector(v)
			want(t, "Vector", e, api.OK)
			wantSame(t, "all elements", r.s, vec(l...), u)
		}
	}
}

// both gets, or sets, an element of a version by chance: in a pool, and of the vector that stands for it.
func (m maker) both(r *runner, p *data.Pool, versions *[]api.Term) {
	t := r.t
	t.Helper()
	v := m.Intn(len(*versions))
	size, _ := p.Size(v)
	i := m.Intn(size+2) - 1
	if m.Intn(2) == 0 {
		got, e := p.Get(v, i)
		out := r.out("vector_get", 2, (*versions)[v], integer(i))
		want(t, "Get", e == api.OK, out[0].Kind != 0)
		if e == api.OK {
			wantSame(t, "Get", r.s, got, out[0])
			(*versions)[v] = out[1]
		}
		return
	}
	x := m.term(2, 4)
	got, e := p.Set(v, i, x)
	out := r.out("vector_set", 1, (*versions)[v], integer(i), x)
	want(t, "Set", e == api.OK, out[0].Kind != 0)
	if e == api.OK {
		want(t, "Set", got, len(*versions))
		*versions = append(*versions, out[0])
	}
}

// TestP6_12_Alone: a pool needs no store: its elements can be bound later on.
func TestP6_12_Alone(t *testing.T) {
	p := data.NewPool()
	v := made(t, p, fun("f", x), y)
	u := set(t, p, v, 1, vec(x, y))
	s, is, e := unify.Unify(unbound(2), x, b)
	want(t, "Unify", is && e == api.OK, true)
	got, e := p.Get(u, 1)
	want(t, "Get", e, api.OK)
	wantSame(t, "Get", s, got, vec(b, y))
	wantGet(t, "it stays", p, v, 0, fun("f", x), 2)
}
