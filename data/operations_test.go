package data_test

import (
	"fmt"
	"math"
	"slices"
	"strings"
	"testing"

	"riparian/api"
	"riparian/data"
	"riparian/prog"
)

// TestP6_1_Names: the names of the table, sorted.
func TestP6_1_Names(t *testing.T) {
	wanted := []string{"string_get", "string_join", "string_new", "string_set", "string_size", "vector_get", "vector_new", "vector_set", "vector_size"}
	want(t, "Names", fmt.Sprint(data.Names()), fmt.Sprint(wanted))
	want(t, "sorted", slices.IsSorted(data.Names()), true)
	want(t, "as many as rows", len(data.Names()), len(rows))
}

// TestP6_1_Is: a name of the table with each number of arguments, and names that are nearly such.
func TestP6_1_Is(t *testing.T) {
	arities := map[string]int{"vector_new": 2, "vector_size": 3, "vector_get": 4, "vector_set": 4, "string_new": 2, "string_size": 3, "string_get": 4, "string_set": 4, "string_join": 3}
	names := append(data.Names(), "vector_join", "vector", "string", "vector_new ", "Vector_new", "vector_ne", "", "f", "=", "true", ":=", "vector_size_", "string_gets")
	for _, name := range names {
		arity, is := arities[name]
		for n := range 20 {
			got := data.Is(fun(name, many(n, x)...))
			want(t, fmt.Sprint("Is ", name, " with ", n), got, is && n == arity)
			inputs, e := data.Inputs(fun(name, many(n, x)...))
			want(t, fmt.Sprint("Inputs ", name, " with ", n), e == api.OK && len(inputs) > 0, got)
			want(t, fmt.Sprint("Inputs ", name, " with ", n), e == api.ErrOp && len(inputs) == 0, !got)
		}
	}
	for name, arity := range arities {
		kind, _, _ := prog.Goal(fun(name, many(arity, x)...))
		want(t, "the goal "+name, kind, api.GoData)
	}
}

// TestP6_1_Trees: only Kind, S and the number of elements are looked at.
func TestP6_1_Trees(t *testing.T) {
	for name, c := range map[string]struct {
		t  api.Term
		is bool
	}{
		"an atom":                 {atom("vector_new"), false},
		"an atom with elements":   {api.Term{Kind: api.KAtom, S: "vector_new", L: many(2, x)}, false},
		"a string":                {api.Term{Kind: api.KStr, S: "vector_new", L: many(2, x)}, false},
		"a vector":                {api.Term{Kind: api.KVec, S: "vector_new", L: many(2, x)}, false},
		"a variable":              {api.Term{Kind: api.KVar, S: "vector_new", L: many(2, x)}, false},
		"an integer":              {api.Term{Kind: api.KInt, S: "vector_new", L: many(2, x)}, false},
		"nothing":                 {none, false},
		"a kind that is none":     {api.Term{Kind: 7, S: "vector_new", L: many(2, x)}, false},
		"a name with elements":    {api.Term{S: "vector_new", L: many(2, x)}, false},
		"without arguments":       {fun("vector_new"), false},
		"many arguments":          {fun("vector_new", many(1000, x)...), false},
		"a number":                {api.Term{Kind: api.KFun, N: 3, S: "vector_new", L: many(2, x)}, true},
		"arguments that are none": {fun("string_set", many(4, none)...), true},
		"one argument that is":    {fun("vector_get", none, fun("f"), variable(-1), broad(5000)), true},
		"deep arguments":          {fun("string_join", chain(2000, a), a, chain(2000, a)), true},
		"inputs of other kinds":   {fun("vector_get", a, a, a, a), true},
		"with a priority":         {fun("@", fun("vector_new", x, y), integer(1)), false},
	} {
		want(t, "Is of "+name, data.Is(c.t), c.is)
		_, e := data.Inputs(c.t)
		want(t, "Inputs of "+name, e == api.OK, c.is)
	}
}

// TestP6_1_Inputs: the inputs stand ahead.
func TestP6_1_Inputs(t *testing.T) {
	for name, wanted := range map[string][]int{
		"vector_new(_, _)": {0}, "vector_size(_, _, _)": {0}, "vector_get(_, _, _, _)": {0, 1}, "vector_set(_, _, _, _)": {0, 1},
		"string_new(_, _)": {0}, "string_size(_, _, _)": {0}, "string_get(_, _, _, _)": {0, 1}, "string_set(_, _, _, _)": {0, 1, 2}, "string_join(_, _, _)": {0, 1},
	} {
		got, e := data.Inputs(of(name))
		if e != api.OK || !slices.Equal(got, wanted) {
			t.Errorf("Inputs of %s: got %v, error %d, want %v", name, got, e, wanted)
		}
	}
}

// TestP6_2_Examples: the chapter's examples.
func TestP6_2_Examples(t *testing.T) {
	for text, wanted := range map[string]reply{
		"vector_new(2, X)":               yesOf("X = {0, 0}"),
		"vector_get({a, Y}, 1, X, W)":    yesOf("X = Y, W = {a, Y}"),
		"vector_set({a, Y}, 0, f(X), W)": yesOf("W = {f(X), Y}"),
		"vector_get(X, Y, Z, W)":         waits(0, 1),
		"vector_get(X, X, Z, W)":         waits(0),
		"vector_get(X, a, Z, W)":         no(),
		"vector_get({a}, 1, Z, W)":       no(),
		`string_get("AB", 1, X, Y)`:      yesOf(`X = 66, Y = "AB"`),
		`string_set("AB", 0, 67, X)`:     yesOf(`X = "CB"`),
		`string_set("AB", 0, X, Y)`:      waits(0),
		`string_join("A", "BC", X)`:      yesOf(`X = "ABC"`),
		`string_join("A", X, Y)`:         waits(0),
		"string_join(1, X, Y)":           no(),
		"f(X)":                           fails(api.ErrOp),
		"vector_new(X)":                  fails(api.ErrOp),
	} {
		wantReply(t, text, do(unbound(4), of(text)), wanted)
	}
	want(t, "Is", data.Is(atom("vector_new")), false)
}

// TestP6_2_Table: each operation with what it can be given.
func TestP6_2_Table(t *testing.T) {
	for _, c := range []struct {
		text   string
		wanted reply
	}{
		{"vector_new(0, X)", yesOf("X = {}")}, {"vector_new(1, f(X, a))", yesOf("f(X, a) = {0}")}, {"vector_new(3, 3)", yesOf("3 = {0, 0, 0}")},
		{"vector_size({}, X, Y)", yesOf("X = 0, Y = {}")}, {"vector_size({Z, a, {b}}, X, X)", yesOf("X = 3, X = {Z, a, {b}}")}, {"vector_size({a}, f(X), [])", yesOf("f(X) = 1, [] = {a}")},
		{"vector_get({a, b, Z}, 0, X, Y)", yesOf("X = a, Y = {a, b, Z}")}, {"vector_get({a, b, Z}, 2, X, Y)", yesOf("X = Z, Y = {a, b, Z}")}, {"vector_get({X}, 0, X, X)", yesOf("X = X, X = {X}")},
		{"vector_set({a, b, Z}, 0, X, Y)", yesOf("Y = {X, b, Z}")}, {"vector_set({a, b, Z}, 1, X, Y)", yesOf("Y = {a, X, Z}")}, {"vector_set({a, b, Z}, 2, X, Y)", yesOf("Y = {a, b, X}")}, {"vector_set({a}, 0, f({b}, X), a)", yesOf("a = {f({b}, X)}")},
		{"vector_set({X}, 0, X, X)", yesOf("X = {X}")}, {"vector_set({{a}}, 0, {Y}, {X})", yesOf("{X} = {{Y}}")},
		{"string_new(0, X)", yesOf(`X = ""`)}, {"string_new(2, f(X))", yesOf(`f(X) = "\x00\x00"`)},
		{`string_size("", X, Y)`, yesOf(`X = 0, Y = ""`)}, {`string_size("\x00\xff", 1, Y)`, yesOf(`1 = 2, Y = "\x00\xff"`)},
		{`string_get("\x00\xff\x80", 0, X, Y)`, yesOf(`X = 0, Y = "\x00\xff\x80"`)}, {`string_get("\x00\xff\x80", 1, X, Y)`, yesOf(`X = 255, Y = "\x00\xff\x80"`)}, {`string_get("\x00\xff\x80", 2, a, Y)`, yesOf(`a = 128, Y = "\x00\xff\x80"`)},
		{`string_set("abc", 0, 0, X)`, yesOf(`X = "\x00bc"`)}, {`string_set("abc", 1, 255, X)`, yesOf(`X = "a\xffc"`)}, {`string_set("abc", 2, 128, 7)`, yesOf(`7 = "ab\x80"`)}, {`string_set("abc", 2, 99, X)`, yesOf(`X = "abc"`)},
		{`string_join("", "", X)`, yesOf(`X = ""`)}, {`string_join("", "ab", X)`, yesOf(`X = "ab"`)}, {`string_join("ab", "", X)`, yesOf(`X = "ab"`)}, {`string_join("b\xff", "\x00a", {X})`, yesOf(`{X} = "b\xff\x00a"`)},
	} {
		wantReply(t, c.text, do(unbound(4), of(c.text)), c.wanted)
	}
}

// TestP6_2_Ends: numbers, indices and bytes at both ends of what they can be, and beyond.
func TestP6_2_Ends(t *testing.T) {
	s := unbound(1)
	numbers := []int{-api.MaxInt, -256, -65, -2, -1, 0, 1, 2, 3, 63, 64, 65, 127, 128, 254, 255, 256, 257, 300, 65536, api.MaxInt}
	for _, n := range numbers {
		wanted := no()
		if n >= 0 && n <= 64 {
			wanted = yes(eq(x, vec(many(n, integer(0))...)))
		}
		wantReply(t, fmt.Sprint("vector_new ", n), do(s, fun("vector_new", integer(n), x)), wanted)
		wanted = no()
		if n >= 0 && n <= 255 {
			wanted = yes(eq(x, str(strings.Repeat("\x00", n))))
		}
		wantReply(t, fmt.Sprint("string_new ", n), do(s, fun("string_new", integer(n), x)), wanted)
		wanted = no()
		if n >= 0 && n <= 255 {
			wanted = yes(eq(x, str("a"+string([]byte{byte(n)}))))
		}
		wantReply(t, fmt.Sprint("string_set to ", n), do(s, fun("string_set", str("ab"), integer(1), integer(n), x)), wanted)
	}
	for _, size := range []int{0, 1, 2, 63, 64} {
		wantVectors(t, size, numbers)
	}
	for _, size := range []int{0, 1, 2, 127, 254, 255} {
		wantStrings(t, size, numbers)
	}
}

// wantVectors asks for elements of a vector of a size, at some indices.
func wantVectors(t *testing.T, size int, indices []int) {
	t.Helper()
	s := unbound(1)
	v := vec(many(size, a)...)
	for i := range v.L {
		v.L[i] = integer(i)
	}
	wantReply(t, fmt.Sprint("vector_size ", size), do(s, fun("vector_size", v, x, x)), yes(eq(x, integer(size)), eq(x, v)))
	for _, i := range indices {
		get, set := no(), no()
		if i >= 0 && i < size {
			changed := vec(slices.Clone(v.L)...)
			changed.L[i] = fun("f", x)
			get, set = yes(eq(x, integer(i)), eq(x, v)), yes(eq(x, changed))
		}
		wantReply(t, fmt.Sprint("vector_get ", size, " ", i), do(s, fun("vector_get", v, integer(i), x, x)), get)
		wantReply(t, fmt.Sprint("vector_set ", size, " ", i), do(s, fun("vector_set", v, integer(i), fun("f", x), x)), set)
	}
}

// wantStrings likewise.
func wantStrings(t *testing.T, size int, indices []int) {
	t.Helper()
	s := unbound(1)
	bytes := make([]byte, size)
	for i := range bytes {
		bytes[i] = byte(7 * i)
	}
	v := str(string(bytes))
	wantReply(t, fmt.Sprint("string_size ", size), do(s, fun("string_size", v, x, x)), yes(eq(x, integer(size)), eq(x, v)))
	for _, i := range indices {
		get, set := no(), no()
		if i >= 0 && i < size {
			changed := slices.Clone(bytes)
			changed[i] = 200
			get, set = yes(eq(x, integer(7*i%256)), eq(x, v)), yes(eq(x, str(string(changed))))
		}
		wantReply(t, fmt.Sprint("string_get ", size, " ", i), do(s, fun("string_get", v, integer(i), x, x)), get)
		wantReply(t, fmt.Sprint("string_set ", size, " ", i), do(s, fun("string_set", v, integer(i), integer(200), x)), set)
	}
	for _, behind := range []int{0, 1, 127, 128, 129, 253, 254, 255} {
		other := strings.Repeat("z", behind)
		join, back := no(), no()
		if size+behind <= 255 {
			join, back = yes(eq(x, str(v.S+other))), yes(eq(x, str(other+v.S)))
		}
		wantReply(t, fmt.Sprint("string_join ", size, " ", behind), do(s, fun("string_join", v, str(other), x)), join)
		wantReply(t, fmt.Sprint("string_join ", behind, " ", size), do(s, fun("string_join", str(other), v, x)), back)
	}
}

// TestP6_2_Bound: values of inputs are taken, of other arguments not; elements stand as they stand in the values.
func TestP6_2_Bound(t *testing.T) {
	// Y and V lead to {X, Z}, W is 1, U is "AB".
	s := store(7, `Y = {X, Z}, Z = f(X), W = 1, U = "AB", V = Y`)
	s.B[6] = w
	for _, c := range []struct {
		text   string
		wanted reply
	}{
		{"vector_get(Y, W, X, Z)", yesOf("X = Z, Z = {X, Z}")},
		{"vector_get(V, 0, Y, V)", yesOf("Y = X, V = {X, Z}")},
		{"vector_set(V, W, V, Y)", yesOf("Y = {X, V}")},
		{"vector_set(Y, W, Y, Y)", yesOf("Y = {X, Y}")},
		{"vector_set({Y, Z}, 0, W, U)", yesOf("U = {W, Z}")},
		{"vector_size(V, W, X)", yesOf("W = 2, X = {X, Z}")},
		{"vector_size(Z, W, X)", no()}, {"vector_size(W, W, X)", no()}, {"vector_size(U, W, X)", no()}, {"vector_size(X, W, X)", waits(0)},
		{"vector_new(W, W)", yesOf("W = {0}")}, {"vector_new(Z, W)", no()},
		{"string_get(U, W, Y, U)", yesOf(`Y = 66, U = "AB"`)},
		{"string_set(U, W, W, U)", yesOf(`U = "A\x01"`)}, {"string_set(U, W, U, U)", no()}, {"string_set(U, W, X, U)", waits(0)},
		{"string_join(U, U, X)", yesOf(`X = "ABAB"`)}, {"string_join(U, V, X)", no()},
		{"string_new(W, X)", yesOf(`X = "\x00"`)}, {"string_size(U, W, Y)", yesOf(`W = 2, Y = "AB"`)},
	} {
		wantReply(t, c.text, do(s, of(c.text)), c.wanted)
	}
	six := variable(6)
	wantReply(t, "a chain", do(s, fun("vector_get", variable(5), six, six, variable(5))), yes(eq(six, z), eq(variable(5), vec(x, z))))
	long := unbound(api.MaxVar)
	for v := range api.MaxVar - 2 {
		long.B[v+2] = variable(v + 1)
	}
	last := variable(api.MaxVar - 1)
	wantReply(t, "a long chain", do(long, fun("vector_size", last, x, x)), waits(1))
	long.B[1] = vec(x)
	wantReply(t, "a long chain to a vector", do(long, fun("vector_size", last, x, x)), yes(eq(x, integer(1)), eq(x, vec(x))))
}

// TestP6_2_Waits: in the order of the inputs, each once; inputs of other kinds come first, wherever they stand; conditions last.
func TestP6_2_Waits(t *testing.T) {
	// V and U lead to X, W to Y.
	s := store(6, "W = Y, U = X, V = U")
	for _, c := range []struct {
		text   string
		wanted reply
	}{
		{"string_set(Z, Y, X, a)", waits(2, 1, 0)}, {"string_set(X, Y, Z, a)", waits(0, 1, 2)}, {"string_set(Y, X, Y, a)", waits(1, 0)}, {"string_set(Z, Z, Z, a)", waits(2)}, {"string_set(Z, X, X, a)", waits(2, 0)},
		{"string_set(V, W, U, a)", waits(0, 1)}, {"string_set(W, V, Y, a)", waits(1, 0)}, {"string_set(V, U, X, a)", waits(0)}, {"vector_get(V, U, X, W)", waits(0)}, {"vector_get(W, V, Z, Z)", waits(1, 0)},
		{`string_set("a", Y, X, a)`, waits(1, 0)}, {"string_set(Y, 7, X, a)", waits(1, 0)}, {"string_set(Y, X, 300, a)", waits(1, 0)}, {"string_set(Y, -1, 300, a)", waits(1)}, {`string_set("", X, -1, a)`, waits(0)}, {`string_set("", 0, X, a)`, waits(0)},
		{"string_set(Y, X, a, a)", no()}, {"string_set(Y, {}, X, a)", no()}, {"string_set(a, Y, X, a)", no()}, {"string_set([], Y, X, a)", no()}, {"string_set({}, Y, X, a)", no()}, {"string_set(Y, f(X), X, a)", no()}, {`string_set(Y, "1", X, a)`, no()}, {"string_set(1, 1, X, a)", no()},
		{"vector_new(X, a)", waits(0)}, {"vector_new(W, a)", waits(1)}, {"vector_size(Z, a, a)", waits(2)}, {"vector_get({}, X, Y, Z)", waits(0)}, {"vector_set(X, -1, Y, Z)", waits(0)}, {"vector_set({}, Z, Y, Z)", waits(2)},
		{`vector_get("a", X, Y, Z)`, no()}, {"vector_get(X, 1+1, Y, Z)", no()}, {"vector_set([], X, Y, Z)", no()}, {"vector_set(X, {}, Y, Z)", no()}, {"vector_size([a], X, Y)", no()}, {"vector_size(0, X, Y)", no()}, {`vector_new("1", X)`, no()}, {"vector_new({}, X)", no()}, {"vector_new(a, X)", no()}, {"vector_new(1+1, X)", no()},
		{"string_new(X, Y)", waits(0)}, {"string_new(a, Y)", no()}, {`string_new("", Y)`, no()}, {"string_size(X, Y, Z)", waits(0)}, {"string_size(a, Y, Z)", no()}, {"string_size({}, Y, Z)", no()}, {"string_get(X, Y, Z, Z)", waits(0, 1)}, {"string_get(X, a, Z, Z)", no()}, {"string_get(a, X, Z, Z)", no()}, {`string_get("a", Y, Z, Z)`, waits(1)},
		{"string_join(X, Y, Z)", waits(0, 1)}, {"string_join(Y, X, Z)", waits(1, 0)}, {"string_join(Y, W, Z)", waits(1)}, {`string_join(X, "a", Z)`, waits(0)}, {"string_join(X, a, Z)", no()}, {"string_join([], X, Z)", no()}, {"string_join(X, 1, Z)", no()},
	} {
		wantReply(t, c.text, do(s, of(c.text)), c.wanted)
	}
}

// TestP6_2_Errors: stores are looked at first, then terms, then whether it is an operation.
func TestP6_2_Errors(t *testing.T) {
	for name, s := range badStores() {
		for _, u := range []api.Term{of("vector_new(1, X)"), none, variable(7), a, fun("vector_new", none, x)} {
			wantReply(t, name, do(s, u), fails(api.ErrStore))
		}
	}
	s := store(3, "Y = vector_new(1, X), Z = vector_size(a, X, X)")
	for _, bad := range append(badTerms(), variable(3), fun("f", variable(3)), variable(math.MaxInt), variable(math.MinInt)) {
		for _, u := range []api.Term{bad, fun("vector_new", integer(1), bad), fun("vector_new", bad, x), fun("vector_size", a, bad, x), fun("vector_set", vec(a), integer(0), vec(bad), y), fun("f", bad), fun("vector_new", bad)} {
			wantReply(t, fmt.Sprint("no term ", u), do(s, u), fails(api.ErrTerm))
		}
	}
	number := fun("vector_new", integer(1), x)
	number.N = 1
	wantReply(t, "an operation that is no term", do(s, number), fails(api.ErrTerm))
	for _, text := range []string{"X", "Y", "Z", "a", "vector_new", "1", "{}", `"vector_new"`, "{1, X}", "f(X)", "f(1, X)", "vector_new(1)", "vector_new(1, X, X)", "vector_size({}, X)", "vector_get({}, 0, X)", "string_join(X, X)", "string_join(X, X, X, X)", "X = Y", "X := 1", "true", "vector_new(1, X) @ 3", "f(vector_new(1, X))", "[vector_new(1, X)]"} {
		wantReply(t, text, do(s, of(text)), fails(api.ErrOp))
	}
	wantReply(t, "an empty store", do(api.Store{}, fun("vector_new", integer(1), a)), yes(eq(a, vec(integer(0)))))
	wantReply(t, "no variable", do(api.Store{}, fun("vector_new", integer(1), x)), fails(api.ErrTerm))
}

// TestP6_2_Limit: sides of equations are terms.
func TestP6_2_Limit(t *testing.T) {
	s := unbound(5)
	s.B[1] = vec(broad(3990), a)                         // 3992 nodes
	s.B[2] = vec(chain(599, a), a)                       // depth 600
	s.B[3] = vec(append(many(62, a), broad(3900), a)...) // 3964 nodes
	for _, c := range []struct {
		name   string
		t      api.Term
		wanted reply
	}{
		{"as many nodes as a term has", fun("vector_set", y, integer(1), fun("f", many(8, a)...), x), yes(eq(x, vec(broad(3990), fun("f", many(8, a)...))))},
		{"a node too many", fun("vector_set", y, integer(1), fun("f", many(9, a)...), x), fails(api.ErrLimit)},
		{"many nodes too many", fun("vector_set", y, integer(1), broad(3000), x), fails(api.ErrLimit)},
		{"a large one that is replaced", fun("vector_set", y, integer(0), broad(3000), x), yes(eq(x, vec(broad(3000), a)))},
		{"a large one that is replaced by a larger one", fun("vector_set", y, integer(0), broad(3994), x), yes(eq(x, vec(broad(3994), a)))},
		{"a variable that is bound to a large one", fun("vector_set", y, integer(1), y, x), yes(eq(x, vec(broad(3990), y)))},
		{"the condition ahead of the limit", fun("vector_set", y, integer(2), broad(3000), x), no()},
		{"the condition ahead of the limit, below 0", fun("vector_set", y, integer(-1), broad(3000), x), no()},
		{"waiting ahead of the limit", fun("vector_set", y, x, broad(3000), x), waits(0)},
		{"a kind ahead of the limit", fun("vector_set", y, a, broad(3000), x), no()},
		{"the first one", fun("vector_set", variable(3), integer(0), fun("f", many(16, a)...), x), yes(eq(x, vec(append([]api.Term{fun("f", many(16, a)...)}, s.B[3].L[1:]...)...)))},
		{"deepest", fun("vector_set", z, integer(1), chain(599, b), x), yes(eq(x, vec(chain(599, a), chain(599, b))))},
		{"deepest, replaced", fun("vector_set", z, integer(0), chain(599, b), x), yes(eq(x, vec(chain(599, b), a)))},
		{"get a large one", fun("vector_get", y, integer(0), x, x), yes(eq(x, broad(3990)), eq(x, s.B[1]))},
		{"get of a deep one", fun("vector_get", z, integer(0), x, x), yes(eq(x, chain(599, a)), eq(x, s.B[2]))},
		{"the size of a large one", fun("vector_size", variable(3), x, x), yes(eq(x, integer(64)), eq(x, s.B[3]))},
		{"a large left side", fun("vector_new", integer(64), broad(3998)), yes(eq(broad(3998), vec(many(64, integer(0))...)))},
		{"a deep left side", fun("string_new", integer(1), chain(599, a)), yes(eq(chain(599, a), str("\x00")))},
	} {
		wantReply(t, c.name, do(s, c.t), c.wanted)
		if model := doOf(s, c.t); !equalReplies(model, c.wanted) {
			t.Errorf("%s: the model has %v", c.name, brief(fmt.Sprint(model)))
		}
	}
}
