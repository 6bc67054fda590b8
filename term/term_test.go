package term

import (
	"math"
	"slices"
	"testing"

	"virgation/api"
	"virgation/sorts"
)

// P2.1

func TestSize(t *testing.T) {
	for _, x := range []struct {
		name         string
		t            api.Term
		nodes, depth int
	}{
		{"a head", v(0), 1, 1},
		{"a head, empty", api.Term{Args: []api.Term{}}, 1, 1},
		{"any kind and number", api.Term{Kind: -7, N: -1 << 31, Args: []api.Term{{Kind: 99}}}, 2, 2},
		{"two arguments", sym(0, v(0), v(1)), 3, 2},
		{"the deepest first", sym(0, v(0, v(1, v(2))), v(1)), 5, 4},
		{"the deepest last", sym(0, v(1), v(0, v(1, v(2)))), 5, 4},
		{"wide", wide(api.MaxSize), api.MaxSize, 2},
		{"tall", tall(api.MaxSize, v(0)), api.MaxSize, api.MaxSize},
		{"2^16 - 1, shared", shared(16, v(0)), 1<<16 - 1, 16},
	} {
		if n, d := Size(x.t); n != x.nodes || d != x.depth {
			t.Error(x.name, n, d)
		}
	}
	for name, x := range largeTerms() {
		if n, d := Size(x); n != api.MaxSize+1 || d != 0 {
			t.Error(name, n, d)
		}
	}
}

func TestSizeOfAllSmallTerms(t *testing.T) {
	for n, l := range allOf([]api.Term{v(0), sym(1)}, 6) {
		for _, x := range l {
			if nodes, depth := Size(x); nodes != n || depth != levels(x) {
				t.Error(text(x), nodes, depth)
			}
		}
	}
}

func levels(t api.Term) int {
	below := 0
	for _, x := range t.Args {
		below = max(below, levels(x))
	}
	return 1 + below
}

func TestSameOfAllSmallTerms(t *testing.T) {
	l := upTo([]api.Term{v(0), v(1), fun(0), sym(0), {Kind: 5, N: -3}}, 3)
	for i, a := range l {
		for j, b := range l {
			if Same(a, b) != (i == j) {
				t.Error(text(a), text(b))
			}
		}
	}
}

func TestSame(t *testing.T) {
	if !Same(v(0), api.Term{Args: []api.Term{}}) || !Same(sym(1, v(0)), sym(1, api.Term{Args: []api.Term{}})) {
		t.Error("nil and empty slices are equivalent")
	}
	if !Same(wide(api.MaxSize), wide(api.MaxSize)) || !Same(tall(api.MaxSize, v(0)), tall(api.MaxSize, v(0))) {
		t.Error("terms at the limit are compared")
	}
	if Same(tall(api.MaxSize, v(0)), tall(api.MaxSize, v(1))) || Same(wide(9), wide(8)) || Same(wide(8), wide(9)) {
		t.Error("different terms are the same")
	}
	for name, x := range largeTerms() {
		if Same(x, x) || Same(x, v(0)) || Same(v(0), x) || Same(x, wide(api.MaxSize)) || Same(wide(api.MaxSize), x) {
			t.Error("a term of too many nodes is equal to none:", name)
		}
	}
}

// P2.2

// orders is a place with parameters of the orders 0 to 3, and with functions and symbols of several arguments.
func orders() Place {
	o, f := to(), to(to())
	return Place{
		Syms:   []api.Symbol{{Name: "a", Rank: 2}, {Name: "b", Rank: 1}, {Name: "c"}},
		Funs:   []api.Sort{to(f, o), o},
		Params: []api.Sort{o, f, to(f), to(to(f), o, f)},
	}
}

func TestSortOfAllSmallTerms(t *testing.T) {
	p := orders()
	has := sorted(p, 4)
	heads := []api.Term{v(0), v(1), v(2), v(3), fun(0), fun(1), sym(0), sym(1), sym(2)}
	others := []api.Term{v(4), v(-1), fun(2), fun(-1), sym(3), sym(-1), {Kind: 3}, {Kind: -1}}
	met := 0
	for _, x := range upTo(heads, 4) {
		if _, found := has[text(x)]; found {
			met++
		}
		compareSort(t, p, x, has)
	}
	if met != len(has) {
		t.Error("not all terms that have a sort were met:", met, len(has))
	}
	for _, x := range upTo(append(heads, others...), 3) {
		compareSort(t, p, x, has)
	}
}

func compareSort(t *testing.T, p Place, x api.Term, has map[string]string) {
	s, e := Sort(p, x)
	want, found := has[text(x)]
	if found && (e != api.OK || sortText(s) != want) {
		t.Error(text(x), sortText(s), e, "not", want)
	}
	if !found && (e != api.ErrSort || len(s.Args) != 0) {
		t.Error(text(x), sortText(s), e)
	}
}

func TestSort(t *testing.T) {
	o, f := to(), to(to())
	for _, x := range []struct {
		t    api.Term
		want string
		e    api.Errno
	}{
		{v(1, v(1, v(0))), "", api.OK},
		{v(3), "((())) () (())", api.OK},
		{v(3, v(2)), "() (())", api.OK},
		{v(3, v(2), v(0)), "(())", api.OK},
		{v(3, v(2), v(0), v(1)), "", api.OK},
		{v(3, v(2), v(0), v(1), v(0)), "", api.ErrSort},
		{v(3, v(1)), "", api.ErrSort},
		{v(3, v(2), v(1)), "", api.ErrSort},
		{v(2, sym(1)), "", api.OK},
		{v(2, sym(0, v(0))), "", api.OK},
		{v(2, sym(0)), "", api.ErrSort},
		{v(2, fun(0, sym(1))), "", api.OK},
		{sym(0), "() ()", api.OK},
		{sym(0, v(0)), "()", api.OK},
		{sym(2, v(0)), "", api.ErrSort},
		{sym(1, sym(1)), "", api.ErrSort},
		{fun(0), "(()) ()", api.OK},
		{fun(0, v(1), fun(1)), "", api.OK},
		{fun(0, v(1), fun(1, v(0))), "", api.ErrSort},
		{sym(0, v(0), sym(1, v(9))), "", api.ErrSort},
	} {
		s, e := Sort(orders(), x.t)
		var parts []byte
		for i, y := range s.Args {
			if i > 0 {
				parts = append(parts, ' ')
			}
			parts = append(parts, "("+sortText(y)+")"...)
		}
		if string(parts) != x.want || e != x.e {
			t.Error(text(x.t), string(parts), e)
		}
	}
	for _, n := range append(extremes(), 4) {
		for kind := range 3 {
			if s, e := Sort(orders(), api.Term{Kind: kind, N: n}); e != api.ErrSort || len(s.Args) != 0 {
				t.Error(kind, n, e)
			}
		}
		if s, e := Sort(Place{Funs: []api.Sort{o}, Params: []api.Sort{f}}, api.Term{Kind: n}); e != api.ErrSort || len(s.Args) != 0 {
			t.Error("kind", n, e)
		}
	}
	for kind := range 3 {
		if _, e := Sort(Place{}, api.Term{Kind: kind}); e != api.ErrSort {
			t.Error("there is nothing in an empty place", kind, e)
		}
	}
}

func TestSortAtTheLimits(t *testing.T) {
	p := Place{Syms: symbols(24), Funs: make([]api.Sort, 64), Params: []api.Sort{{}, {}, {}, {}, {}, {}, {}, tallSort(30)}}
	for _, x := range []api.Term{sym(23), fun(63), v(7), tall(api.MaxSize, v(0))} {
		if _, e := Sort(p, x); e != api.OK {
			t.Error(x.Kind, x.N, e)
		}
	}
	if s, e := Sort(p, v(7)); sortText(s) != sortText(tallSort(30)) || e != api.OK {
		t.Error(sortText(s), e)
	}
	if _, e := Sort(p, tall(api.MaxSize, sym(9, v(0), v(0)))); e != api.ErrLimit {
		t.Error(e)
	}
	if _, e := Sort(p, wide(api.MaxSize)); e != api.ErrSort {
		t.Error(e)
	}
}

func TestOrderOfErrorsOfSort(t *testing.T) {
	for name, p := range wrongPlaces() {
		for _, x := range []api.Term{sym(0), v(9), {Kind: 4}, shared(1000, sym(0))} {
			if s, e := Sort(p, x); e != api.ErrArg || len(s.Args) != 0 {
				t.Error(name, e)
			}
		}
	}
	for name, x := range largeTerms() { // also of those that have no sort
		if s, e := Sort(orders(), x); e != api.ErrLimit || len(s.Args) != 0 {
			t.Error(name, e)
		}
		if _, e := Sort(Place{}, x); e != api.ErrLimit {
			t.Error(name, e)
		}
	}
}

func TestSortIsNewMemory(t *testing.T) {
	p := orders()
	for _, x := range []api.Term{v(3), v(3, v(2)), v(2), fun(0), sym(0), sym(0, v(0))} {
		s, _ := Sort(p, x)
		want := sortText(s)
		spoilSort(s)
		if again, e := Sort(p, x); sortText(again) != want || e != api.OK {
			t.Error("a result shares memory with the place", text(x))
		}
	}
	f := to(to())
	s, _ := Sort(Place{Params: []api.Sort{to(f, f)}}, v(0)) // f is in there twice, in the same memory
	s.Args[0].Args[0] = tallSort(3)
	if sortText(s.Args[1]) != "()" {
		t.Error("a result shares memory with itself")
	}
}

// P2.3

func TestFree(t *testing.T) {
	for _, x := range []struct {
		t    api.Term
		want []int
	}{
		{sym(0), nil},
		{fun(5, sym(7), fun(-1), api.Term{Kind: 3, N: 4}), nil},
		{v(0), []int{0}},
		{v(1, v(0)), []int{0, 1}},
		{v(7, v(7, v(7)), v(3)), []int{3, 7}},
		{sym(0, v(10), v(9), v(100), v(2), v(9)), []int{2, 9, 10, 100}},
		{sym(-4, fun(3, v(1<<40), v(0))), []int{0, 1 << 40}},
		{shared(16, v(6)), []int{6}},
		{tall(api.MaxSize, v(2)), []int{2}},
	} {
		if l, e := Free(x.t); !slices.Equal(l, x.want) || e != api.OK {
			t.Error(x.want, l, e)
		}
	}
	for _, n := range []int{-1, -2, -1 << 31, math.MinInt} {
		for _, x := range []api.Term{v(n), v(n, v(0)), v(0, v(n)), sym(0, v(3), fun(1, v(n, v(2)))), sym(0, v(n), v(5))} {
			if l, e := Free(x); len(l) != 0 || e != api.ErrArg {
				t.Error(text(x), l, e)
			}
		}
	}
	for name, x := range largeTerms() {
		if l, e := Free(x); len(l) != 0 || e != api.ErrLimit {
			t.Error(name, l, e)
		}
	}
}

func TestFreeOfManyVariables(t *testing.T) {
	x := sym(0)
	for i := range api.MaxSize - 1 {
		x.Args = append(x.Args, v(api.MaxSize-2-i))
	}
	l, e := Free(x)
	if len(l) != api.MaxSize-1 || e != api.OK {
		t.Fatal(len(l), e)
	}
	for i, n := range l {
		if i != n {
			t.Fatal(i, n)
		}
	}
}

// Rule 3

func TestArgumentsAreLeftAsTheyAre(t *testing.T) {
	p := orders()
	x := v(3, v(2), v(0), fun(0, v(1)))
	args := []api.Term{sym(0, v(0)), v(1, sym(2)), v(2), fun(0, sym(1))}
	for _, x := range []api.Term{x, v(0), v(1, v(1, v(0)))} {
		before := text(x)
		Check(p)
		Size(x)
		Same(x, args[0])
		Sort(p, x)
		Free(x)
		Subst(x, args)
		Subst(x, args[:1])
		Apply(x, args)
		Apply(x, nil)
		if text(x) != before || texts(args) != texts([]api.Term{sym(0, v(0)), v(1, sym(2)), v(2), fun(0, sym(1))}) {
			t.Error(before)
		}
	}
	q := orders()
	for i := range p.Params {
		if p.Syms[i%3] != q.Syms[i%3] || !sorts.Same(p.Params[i], q.Params[i]) || !sorts.Same(p.Funs[i%2], q.Funs[i%2]) {
			t.Error("the place has changed", i)
		}
	}
}
