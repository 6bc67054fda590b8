package sorts

import (
	"math"
	"testing"

	"virgation/api"
)

// P1.1

func TestCheckAtTheLimits(t *testing.T) {
	for name, s := range edgeSorts() {
		if e := Check(s); e != api.OK {
			t.Error(name, e)
		}
	}
	for name, s := range badSorts() {
		if e := Check(s); e != api.ErrSort {
			t.Error(name, e)
		}
	}
}

func TestCheckAcceptsAllSmallSorts(t *testing.T) {
	for _, s := range upTo(8) {
		if e := Check(s); e != api.OK {
			t.Error(text(s), e)
		}
	}
}

func TestSize(t *testing.T) {
	for _, x := range []struct {
		name         string
		s            api.Sort
		nodes, depth int
	}{
		{"o", of(), 1, 1},
		{"o, empty", api.Sort{Args: []api.Sort{}}, 1, 1},
		{"one argument", of(of()), 2, 2},
		{"the chapter's", of(of(of()), of()), 4, 3},
		{"the deepest first", of(of(of(of())), of()), 5, 4},
		{"the deepest last", of(of(), of(of(of()))), 5, 4},
		{"valid, most nodes", bush(60), 60, 3},
		{"not valid, one node too many", bush(61), 61, 0},
		{"depth 30", tall(30), 30, 30},
		{"depth 31, not valid", tall(31), 31, 31},
		{"depth 60, not valid", tall(60), 60, 60},
		{"depth 61", tall(61), 61, 0},
		{"depth 2^16", tall(1 << 16), 61, 0},
		{"eight arguments", wide(8), 9, 2},
		{"nine arguments, not valid", wide(9), 10, 2},
		{"59 arguments, not valid", wide(59), 60, 2},
		{"60 arguments", wide(60), 61, 0},
		{"many arguments", wide(100000), 61, 0},
		{"31 nodes, shared", shared(5), 31, 5},
		{"63 nodes, shared", shared(6), 61, 0},
		{"nodes without end", shared(1000), 61, 0},
	} {
		if n, d := Size(x.s); n != x.nodes || d != x.depth {
			t.Error(x.name, n, d)
		}
	}
}

func TestSizeOfAllSmallSorts(t *testing.T) {
	for n, l := range all(8) {
		for _, s := range l {
			if nodes, depth := Size(s); nodes != n || depth != levels(s) {
				t.Error(text(s), nodes, depth)
			}
		}
	}
}

func TestSameOfAllSmallSorts(t *testing.T) {
	l := upTo(7)
	for i, a := range l {
		for j, b := range l {
			if Same(a, b) != (i == j) {
				t.Error(text(a), text(b))
			}
		}
	}
}

func TestSame(t *testing.T) {
	if !Same(api.Sort{}, api.Sort{Args: []api.Sort{}}) || !Same(of(api.Sort{}), of(api.Sort{Args: []api.Sort{}})) {
		t.Error("nil and empty slices are equivalent")
	}
	for _, fresh := range []func() api.Sort{
		func() api.Sort { return bush(60) },
		func() api.Sort { return tall(31) },
		func() api.Sort { return tall(60) },
		func() api.Sort { return wide(9) },
		func() api.Sort { return wide(59) },
	} {
		if !Same(fresh(), fresh()) {
			t.Error("sorts of up to 60 nodes are compared, valid or not:", text(fresh()))
		}
	}
	for _, s := range []api.Sort{bush(61), tall(61), wide(60), shared(6), shared(1000), tall(1 << 16), wide(100000)} {
		if Same(s, s) || Same(s, of()) || Same(of(), s) || Same(s, bush(60)) || Same(bush(60), s) {
			t.Error("a sort of more than 60 nodes is equal to none")
		}
	}
	if Same(bush(60), bush(59)) || Same(tall(60), tall(59)) || Same(wide(9), wide(8)) || Same(wide(8), wide(9)) {
		t.Error("different sorts are the same")
	}
}

// P1.2

func TestOrder(t *testing.T) {
	for _, x := range []struct {
		s     api.Sort
		order int
	}{
		{of(), 0},
		{api.Sort{Args: []api.Sort{}}, 0},
		{of(of()), 1},
		{wide(8), 1},
		{of(of(of()), of()), 2},
		{of(of(), of(of())), 2},
		{of(of(), of(of(), of(of())), of(of())), 3},
		{bush(60), 2},
		{tall(30), 29},
		{shared(5), 4},
	} {
		if n, e := Order(x.s); n != x.order || e != api.OK {
			t.Error(text(x.s), n, e)
		}
	}
	for name, s := range badSorts() {
		if n, e := Order(s); n != 0 || e != api.ErrSort {
			t.Error(name, n, e)
		}
	}
}

func TestBehind(t *testing.T) {
	for _, s := range append(upTo(7), bush(60), tall(30), wide(8), shared(5)) {
		for k := range len(s.Args) + 1 {
			x, e := Behind(s, k)
			if e != api.OK || text(x) != text(of(s.Args[k:]...)) {
				t.Error(text(s), k, text(x), e)
			}
		}
		for _, k := range append(extremes(), len(s.Args)+1, len(s.Args)+2) {
			if x, e := Behind(s, k); e != api.ErrArg || len(x.Args) != 0 {
				t.Error(text(s), k, x, e)
			}
		}
	}
}

func TestBehindOfSortsThatAreNotValid(t *testing.T) {
	for name, s := range badSorts() {
		for _, k := range append(extremes(), 0, 1, len(s.Args), len(s.Args)+1) { // ErrSort is named ahead of ErrArg
			if x, e := Behind(s, k); e != api.ErrSort || len(x.Args) != 0 {
				t.Error(name, k, len(x.Args), e)
			}
		}
	}
}

func TestBehindReturnsNewMemory(t *testing.T) {
	s := of(of(), of(of(), of(of())), of(of()))
	want := text(s)
	for k := range 4 {
		x, _ := Behind(s, k)
		spoil(x)
		if text(s) != want {
			t.Fatal("a result shares memory with the argument", k)
		}
	}
	part := of(of())
	x, _ := Behind(of(part, part), 0)
	x.Args[0].Args[0] = of(of())
	if text(x.Args[1]) != "o > o" {
		t.Error("a result shares memory with itself")
	}
}

// spoil changes all that can be reached from a result.
func spoil(s api.Sort) {
	for i := range s.Args {
		spoil(s.Args[i])
		s.Args[i] = wide(3)
	}
	_ = append(s.Args, wide(4))
}

func TestArgumentsAreLeftAsTheyAre(t *testing.T) {
	for name, s := range edgeSorts() {
		before := text(s)
		Check(s)
		Size(s)
		Same(s, of())
		Same(s, s)
		Order(s)
		Behind(s, 1)
		Put(s)
		if text(s) != before {
			t.Error(name)
		}
	}
}

// P1.5

func TestOrderBehindArguments(t *testing.T) {
	for _, s := range append(upTo(8), bush(60), tall(30), shared(5)) {
		whole, _ := Order(s)
		for k := range len(s.Args) + 1 {
			x, _ := Behind(s, k)
			if n, e := Order(x); n > whole || e != api.OK {
				t.Error(text(s), k, n, e)
			}
		}
		if _, depth := Size(s); depth < whole+1 {
			t.Error(text(s), depth, whole)
		}
	}
}

func TestBehindTwice(t *testing.T) {
	for _, s := range append(upTo(7), bush(60), wide(8)) {
		for k := range len(s.Args) + 1 {
			x, _ := Behind(s, k)
			for m := range len(s.Args) - k + 2 {
				two, e := Behind(x, m)
				one, f := Behind(s, k+m)
				if e != f || !Same(one, two) {
					t.Error(text(s), k, m, text(one), e, text(two), f)
				}
			}
		}
	}
	x, _ := Behind(wide(8), 8)
	if _, e := Behind(x, math.MaxInt); e != api.ErrArg {
		t.Error(e)
	}
}
