package tree

import (
	"maps"
	"slices"
	"testing"

	"virgation/api"
)

// P6.1

func TestCheck(t *testing.T) {
	for name, x := range edgeTrees() {
		if e := Check(ranks(), x); e != api.OK {
			t.Error(name, e)
		}
	}
	for name, x := range badTrees() {
		if e := Check(ranks(), x); e != api.ErrTree {
			t.Error(name, e)
		}
	}
	for _, n := range extremes()[1:] {
		for _, x := range []api.Tree{{Sym: n}, b(api.Tree{Sym: n}), a(c(), b(api.Tree{Sym: n}))} {
			if e := Check(ranks(), x); e != api.ErrTree {
				t.Error(text(x), e)
			}
		}
	}
	for _, x := range upTo(6) {
		if e := Check(ranks(), x); e != api.OK {
			t.Error(text(x), e)
		}
	}
}

func TestCheckOfRanks(t *testing.T) {
	for _, r := range badRanks() {
		for _, x := range []api.Tree{u(), c(), {Sym: -2}, b(b(c()))} {
			if e := Check(r, x); e != api.ErrArg {
				t.Error(len(r), text(x), e)
			}
		}
	}
	four := []api.Tree{u(), u(), u(), u()}
	for _, x := range []struct {
		ranks []int
		t     api.Tree
		want  api.Errno
	}{
		{nil, u(), api.OK},
		{[]int{}, u(), api.OK},
		{nil, api.Tree{}, api.ErrTree},
		{[]int{0}, api.Tree{}, api.OK},
		{[]int{1}, api.Tree{}, api.ErrTree},
		{[]int{0, 1, 2, 3}, api.Tree{Sym: 3, Kids: four[1:]}, api.OK},
		{[]int{0, 1, 2, 3}, api.Tree{Sym: 3, Kids: four}, api.ErrTree},
		{[]int{0, 1, 2, 3}, api.Tree{Sym: 4, Kids: four}, api.ErrTree},
		{make([]int, 24), api.Tree{Sym: 23}, api.OK},
		{make([]int, 24), api.Tree{Sym: 24}, api.ErrTree},
		{[]int{4}, api.Tree{Kids: four}, api.OK},
	} {
		if e := Check(x.ranks, x.t); e != x.want {
			t.Error(x.ranks, text(x.t), e)
		}
	}
}

func TestSize(t *testing.T) {
	for _, x := range []struct {
		name         string
		t            api.Tree
		nodes, depth int
	}{
		{"unknown", u(), 1, 1},
		{"empty kids", api.Tree{Kids: []api.Tree{}}, 1, 1},
		{"the deepest first", a(b(b(c())), u()), 5, 4},
		{"the deepest last", q(c(), u(), c(), b(u())), 6, 3},
		{"depth 200", tall(200, c()), 200, 200},
		{"depth 201, not valid", tall(201, c()), 201, 201},
		{"depth 20000, not valid", tall(20000, c()), 20000, 20000},
		{"depth 20001", tall(20001, c()), 20001, 0},
		{"depth 2^16", tall(1<<16, c()), 20001, 0},
		{"20000 nodes", bush(20000, c()), 20000, 15},
		{"20001 nodes", bush(20001, c()), 20001, 0},
		{"16383 nodes, shared", shared(14), 16383, 14},
		{"32767 nodes, shared", shared(15), 20001, 0},
		{"nodes without end", shared(1000), 20001, 0},
		{"many kids, not valid", wide(19999), 20000, 2},
		{"too many kids", wide(20000), 20001, 0},
		{"far too many kids", wide(1 << 20), 20001, 0},
		{"symbols that are none", api.Tree{Sym: -7, Kids: []api.Tree{{Sym: 100}}}, 2, 2},
		{"unknown with kids", api.Tree{Sym: -1, Kids: []api.Tree{u(), c()}}, 3, 2},
	} {
		if n, d := Size(x.t); n != x.nodes || d != x.depth {
			t.Error(x.name, n, d)
		}
	}
	for n, l := range all(6) {
		for _, x := range l {
			if nodes, depth := Size(x); nodes != n || depth != levels(x) {
				t.Error(text(x), nodes, depth)
			}
		}
	}
}

// levels is the depth of a tree.
func levels(t api.Tree) int {
	below := 0
	for _, x := range t.Kids {
		below = max(below, levels(x))
	}
	return 1 + below
}

func TestSame(t *testing.T) {
	list := upTo(5)
	for i, x := range list {
		for j, y := range list {
			if Same(x, y) != (i == j) {
				t.Error(text(x), text(y))
			}
		}
	}
	if !Same(c(), api.Tree{Sym: 2, Kids: []api.Tree{}}) || !Same(b(u()), b(api.Tree{Sym: -1, Kids: []api.Tree{}})) {
		t.Error("nil and empty slices are equivalent")
	}
	for i, fresh := range []func() api.Tree{
		func() api.Tree { return bush(20000, c()) },
		func() api.Tree { return tall(20000, c()) },
		func() api.Tree { return wide(19999) },
		func() api.Tree { return shared(14) },
		func() api.Tree { return api.Tree{Sym: -1, Kids: []api.Tree{{Sym: -9}, {Sym: 99}}} },
	} {
		if !Same(fresh(), fresh()) {
			t.Error("trees of up to 20000 nodes are compared, valid or not", i)
		}
	}
	for i, x := range []api.Tree{bush(20001, c()), tall(20001, c()), wide(20000), shared(15), shared(1000), tall(1<<16, c())} {
		if Same(x, x) || Same(x, u()) || Same(u(), x) || Same(x, bush(20000, c())) || Same(bush(20000, c()), x) {
			t.Error("a tree of more than 20000 nodes is equal to none", i)
		}
	}
	if Same(tall(20000, c()), tall(20000, u())) || Same(wide(5), wide(4)) || Same(wide(4), wide(5)) {
		t.Error("different trees are the same")
	}
}

// calls are the functions that take ranks, and hand out the tree of a call with an error.
func calls() map[string]func(ranks []int, x api.Tree) (api.Tree, api.Errno) {
	return map[string]func(ranks []int, x api.Tree) (api.Tree, api.Errno){
		"at least, first":  func(r []int, x api.Tree) (api.Tree, api.Errno) { return ifTrue(AtLeast(r, x, u())) },
		"at least, second": func(r []int, x api.Tree) (api.Tree, api.Errno) { return ifTrue(AtLeast(r, u(), x)) },
		"meet, first":      func(r []int, x api.Tree) (api.Tree, api.Errno) { return Meet(r, x, c()) },
		"meet, second":     func(r []int, x api.Tree) (api.Tree, api.Errno) { return Meet(r, c(), x) },
		"join, first":      func(r []int, x api.Tree) (api.Tree, api.Errno) { return Join(r, x, b(c())) },
		"join, second":     func(r []int, x api.Tree) (api.Tree, api.Errno) { return Join(r, b(c()), x) },
		"join, both":       func(r []int, x api.Tree) (api.Tree, api.Errno) { return Join(r, x, x) },
		"cut":              func(r []int, x api.Tree) (api.Tree, api.Errno) { return Cut(r, x, 3) },
		"cut to nothing":   func(r []int, x api.Tree) (api.Tree, api.Errno) { return Cut(r, x, 0) },
		"cut, wrong":       func(r []int, x api.Tree) (api.Tree, api.Errno) { return Cut(r, x, -1) },
		"at":               func(r []int, x api.Tree) (api.Tree, api.Errno) { return At(r, x, nil) },
		"at, wrong":        func(r []int, x api.Tree) (api.Tree, api.Errno) { return At(r, x, []int{-1}) },
	}
}

// ifTrue is a tree with kids for true, which does not come together with an error.
func ifTrue(is bool, e api.Errno) (api.Tree, api.Errno) {
	if is {
		return b(c()), e
	}
	return api.Tree{}, e
}

func TestErrorsOfRanksAndTreesComeFirst(t *testing.T) {
	for call, do := range calls() {
		for name, x := range badTrees() {
			if y, e := do(ranks(), x); e != api.ErrTree || !isZero(y) {
				t.Error(call, name, e)
			}
		}
		for _, r := range badRanks() {
			for _, x := range []api.Tree{u(), a(c(), c()), {Sym: -2}, shared(1000)} {
				if y, e := do(r, x); e != api.ErrArg || !isZero(y) {
					t.Error(call, len(r), e)
				}
			}
		}
	}
}

// P6.2, P6.5

func TestAtLeast(t *testing.T) {
	list := upTo(5)
	for _, x := range list {
		for _, y := range list {
			if is, e := AtLeast(ranks(), x, y); is != contains(known(x), known(y)) || e != api.OK {
				t.Error(text(x), text(y), is, e)
			}
		}
	}
}

// contains reports whether all of y is in x.
func contains(x, y map[string]bool) bool {
	for way := range y {
		if !x[way] {
			return false
		}
	}
	return true
}

func TestAtLeastIsAnOrder(t *testing.T) {
	list := upTo(4)
	for _, x := range list {
		if !atLeast(t, x, x) {
			t.Error("not reflexive", text(x))
		}
		for _, y := range list {
			if atLeast(t, x, y) && atLeast(t, y, x) && !Same(x, y) {
				t.Error("not antisymmetric", text(x), text(y))
			}
			for _, z := range list {
				if atLeast(t, x, y) && atLeast(t, y, z) && !atLeast(t, x, z) {
					t.Error("not transitive", text(x), text(y), text(z))
				}
			}
		}
	}
}

func atLeast(t *testing.T, x, y api.Tree) bool {
	t.Helper()
	is, e := AtLeast(ranks(), x, y)
	if e != api.OK {
		t.Fatal(text(x), text(y), e)
	}
	return is
}

func TestMeet(t *testing.T) {
	list := upTo(5)
	for _, x := range list {
		for _, y := range list {
			m, e := Meet(ranks(), x, y)
			both := known(x)
			maps.DeleteFunc(both, func(way string, _ bool) bool { return !known(y)[way] })
			if e != api.OK || Check(ranks(), m) != api.OK || !maps.Equal(known(m), both) {
				t.Error(text(x), text(y), text(m), e)
			}
		}
	}
}

func TestMeetIsTheGreatestBelow(t *testing.T) {
	list := upTo(4)
	for _, x := range list {
		for _, y := range list {
			m, e := Meet(ranks(), x, y)
			if e != api.OK || !atLeast(t, x, m) || !atLeast(t, y, m) {
				t.Error(text(x), text(y), text(m), e)
			}
			for _, z := range list {
				if atLeast(t, x, z) && atLeast(t, y, z) && !atLeast(t, m, z) {
					t.Error(text(x), text(y), text(m), text(z))
				}
			}
		}
	}
}

func TestJoin(t *testing.T) {
	list := upTo(5)
	for _, x := range list {
		for _, y := range list {
			either := known(x)
			maps.Copy(either, known(y))
			one := true
			for _, at := range symbolsAt(either) {
				one = one && len(at) == 1
			}
			j, e := Join(ranks(), x, y)
			if !one && (e != api.ErrNone || !isZero(j)) {
				t.Error(text(x), text(y), text(j), e)
			}
			if one && (e != api.OK || Check(ranks(), j) != api.OK || !maps.Equal(known(j), either)) {
				t.Error(text(x), text(y), text(j), e)
			}
		}
	}
}

func TestJoinIsTheLeastAbove(t *testing.T) {
	list := upTo(4)
	above := upTo(7) // those below have up to 4 nodes, and a join of them has no more than 7
	for _, x := range list {
		for _, y := range list {
			j, e := Join(ranks(), x, y)
			if e == api.OK && (!atLeast(t, j, x) || !atLeast(t, j, y)) {
				t.Error(text(x), text(y), text(j))
			}
			for _, z := range above {
				if atLeast(t, z, x) && atLeast(t, z, y) && (e != api.OK || !atLeast(t, z, j)) {
					t.Error(text(x), text(y), text(z), e)
				}
			}
		}
	}
}

func TestTheExampleOfTheChapter(t *testing.T) {
	x, y := a(c(), u()), a(b(c()), c())
	if m, e := Meet(ranks(), x, y); !Same(m, a(u(), u())) || e != api.OK {
		t.Error(text(m), e)
	}
	if j, e := Join(ranks(), x, y); !isZero(j) || e != api.ErrNone {
		t.Error(text(j), e)
	}
	if j, e := Join(ranks(), x, a(u(), c())); !Same(j, a(c(), c())) || e != api.OK {
		t.Error(text(j), e)
	}
}

func TestJoinAtTheLimit(t *testing.T) {
	half := func(n int) api.Tree { return bush(n, c()) }
	for _, x := range []struct {
		name string
		x, y api.Tree
		want api.Errno
	}{
		{"20000 nodes", a(half(10000), u()), a(u(), half(9999)), api.OK},
		{"20001 nodes", a(half(10000), u()), a(u(), half(10000)), api.ErrLimit},
		{"39997 nodes", a(half(19998), u()), a(u(), half(19998)), api.ErrLimit},
		{"the same 20000", half(20000), half(20000), api.OK},
		{"20000 and unknown", half(20000), u(), api.OK},
		{"unknown and 20000", u(), half(20000), api.OK},
		{"no join of many nodes", a(half(10000), b(u())), a(u(), half(10000)), api.ErrNone},
		{"no join at the last", q(half(10000), u(), u(), c()), q(u(), half(9999), u(), b(u())), api.ErrNone},
		{"no join at the first", q(c(), half(10000), u(), u()), q(b(u()), u(), half(9999), u()), api.ErrNone},
		{"depth 200", a(tall(199, c()), u()), a(u(), tall(199, c())), api.OK},
	} {
		j, e := Join(ranks(), x.x, x.y)
		if e != x.want || e != api.OK && !isZero(j) {
			t.Error(x.name, e)
		}
		k, f := Join(ranks(), x.y, x.x)
		if f != x.want || !Same(j, k) {
			t.Error(x.name, "the other way around", f)
		}
		if e == api.OK && (!atLeast(t, j, x.x) || !atLeast(t, j, x.y) || Check(ranks(), j) != api.OK) {
			t.Error(x.name, "is not above both")
		}
	}
}

func TestEdgeTreesAreTakenWhole(t *testing.T) {
	for name, x := range edgeTrees() {
		if !atLeast(t, x, x) || !atLeast(t, x, u()) || atLeast(t, u(), x) != (len(known(x)) == 0) {
			t.Error(name)
		}
		if m, e := Meet(ranks(), x, x); !Same(m, x) || e != api.OK {
			t.Error(name, e)
		}
		for _, y := range []api.Tree{x, u()} {
			if j, e := Join(ranks(), x, y); !Same(j, x) || e != api.OK {
				t.Error(name, e)
			}
			if j, e := Join(ranks(), y, x); !Same(j, x) || e != api.OK {
				t.Error(name, e)
			}
		}
		if y, e := At(ranks(), x, nil); !Same(y, x) || e != api.OK {
			t.Error(name, e)
		}
	}
}

// P6.3, P6.6

func TestCut(t *testing.T) {
	for _, x := range upTo(6) {
		for depth := range 8 {
			y, e := Cut(ranks(), x, depth)
			high := known(x)
			maps.DeleteFunc(high, func(way string, _ bool) bool { return len(waySteps(way)) > depth })
			if e != api.OK || Check(ranks(), y) != api.OK || !maps.Equal(known(y), high) {
				t.Error(text(x), depth, text(y), e)
			}
		}
	}
	for _, n := range []int{-1, -2, -1 << 31, -1 << 63} {
		for _, x := range []api.Tree{u(), c(), tall(200, c())} {
			if y, e := Cut(ranks(), x, n); e != api.ErrArg || !isZero(y) {
				t.Error(n, text(x), e)
			}
		}
	}
	for name, x := range edgeTrees() {
		for _, n := range []int{200, 201, 1 << 31, 1<<63 - 1} {
			if y, e := Cut(ranks(), x, n); !Same(x, y) || e != api.OK {
				t.Error(name, n, e)
			}
		}
		if y, e := Cut(ranks(), x, 0); !Same(y, u()) || e != api.OK {
			t.Error(name, e)
		}
	}
	if y, e := Cut(ranks(), tall(200, c()), 199); !Same(y, tall(200, u())) || e != api.OK {
		t.Error(e)
	}
}

// waySteps are the symbols on the way to a node.
func waySteps(way string) []byte {
	var syms []byte
	for i := 0; i < len(way); i += 4 { // the symbols and kids have one digit, and a period between them
		syms = append(syms, way[i])
	}
	return syms
}

func TestCutOfCut(t *testing.T) {
	for _, x := range append(upTo(5), bush(20000, c()), bush(777, u()), tall(200, c())) {
		for m := range 9 {
			y, e := Cut(ranks(), x, m)
			if e != api.OK || !atLeast(t, x, y) {
				t.Error(text(x), m, e)
			}
			for n := range 9 {
				z, e := Cut(ranks(), y, n)
				w, f := Cut(ranks(), x, min(m, n))
				if !Same(z, w) || e != api.OK || f != api.OK {
					t.Error(text(x), m, n, e, f)
				}
			}
		}
	}
}

func TestAt(t *testing.T) {
	x := a(b(c()), q(u(), a(c(), b(u())), c(), b(b(c()))))
	for _, y := range []struct {
		path []int
		want api.Tree
	}{
		{nil, x},
		{[]int{}, x},
		{[]int{0}, b(c())},
		{[]int{0, 0}, c()},
		{[]int{1}, q(u(), a(c(), b(u())), c(), b(b(c())))},
		{[]int{1, 0}, u()},
		{[]int{1, 1}, a(c(), b(u()))},
		{[]int{1, 1, 1}, b(u())},
		{[]int{1, 1, 1, 0}, u()},
		{[]int{1, 3, 0}, b(c())},
	} {
		if z, e := At(ranks(), x, y.path); !Same(z, y.want) || e != api.OK {
			t.Error(y.path, text(z), e)
		}
	}
	wrong := [][]int{{2}, {0, 1}, {0, 0, 0}, {1, 4}, {1, 0, 0}, {1, 1, 0, 0}, {1, 1, 1, 0, 0}, {1, 1, 1, 1}, make([]int, 1<<20)}
	for _, n := range extremes() {
		wrong = append(wrong, []int{n}, []int{1, n}, []int{1, 1, n, 0}, []int{0, 0, n})
	}
	for _, path := range wrong {
		if z, e := At(ranks(), x, path); e != api.ErrNone || !isZero(z) {
			t.Error(len(path), path[:min(4, len(path))], text(z), e)
		}
	}
	high := tall(200, u())
	if z, e := At(ranks(), high, make([]int, 199)); !Same(z, u()) || e != api.OK {
		t.Error(text(z), e)
	}
	if z, e := At(ranks(), high, make([]int, 200)); !isZero(z) || e != api.ErrNone {
		t.Error(text(z), e)
	}
}

func TestAtOfAllSmallTrees(t *testing.T) {
	for _, x := range upTo(6) {
		follow(t, x, x, nil)
	}
}

// follow asks for part, which is at the end of path in x, and for all in it.
func follow(t *testing.T, x, part api.Tree, path []int) {
	t.Helper()
	if y, e := At(ranks(), x, path); !Same(y, part) || e != api.OK {
		t.Error(text(x), path, text(y), e)
	}
	for i, kid := range part.Kids {
		follow(t, x, kid, append(slices.Clone(path), i))
	}
	for _, n := range []int{-1, len(part.Kids)} {
		if y, e := At(ranks(), x, append(slices.Clone(path), n)); !isZero(y) || e != api.ErrNone {
			t.Error(text(x), path, n, text(y), e)
		}
	}
}

// Rule 3

func TestResultsShareNoMemory(t *testing.T) {
	one := func(x api.Tree, e api.Errno) api.Tree { return x }
	part := q(a(c(), b(u())), a(c(), b(u())), b(c()), u())
	for name, do := range map[string]func(x, y api.Tree) api.Tree{
		"meet":            func(x, y api.Tree) api.Tree { return one(Meet(ranks(), x, y)) },
		"join":            func(x, y api.Tree) api.Tree { return one(Join(ranks(), x, y)) },
		"join of unknown": func(x, y api.Tree) api.Tree { return one(Join(ranks(), x, u())) },
		"unknown, joined": func(x, y api.Tree) api.Tree { return one(Join(ranks(), u(), x)) },
		"join below":      func(x, y api.Tree) api.Tree { return one(Join(ranks(), a(x, u()), a(u(), y))) },
		"cut":             func(x, y api.Tree) api.Tree { return one(Cut(ranks(), x, 3)) },
		"cut far below":   func(x, y api.Tree) api.Tree { return one(Cut(ranks(), x, 1<<40)) },
		"at":              func(x, y api.Tree) api.Tree { return one(At(ranks(), x, nil)) },
		"at a path":       func(x, y api.Tree) api.Tree { return one(At(ranks(), x, []int{1})) },
	} {
		x := q(part, part, u(), part) // the parts share memory
		y := q(part, u(), part, part)
		was, too := text(x), text(y)
		r := do(x, y)
		if text(x) != was || text(y) != too {
			t.Error(name, "changes an argument")
		}
		if same := do(x, y); text(same) != text(r) {
			t.Error(name, "differs from call to call")
		}
		if len(r.Kids) == 0 || !disjoint(r) {
			t.Error(name, "shares memory in its result")
		}
		spoil(r)
		if text(x) != was || text(y) != too {
			t.Error(name, "shares memory with an argument")
		}
	}
}

func TestSlicesWithRoomAreNotWrittenTo(t *testing.T) {
	room := []api.Tree{c(), c(), c(), c(), {Sym: 55}}
	x := api.Tree{Sym: 3, Kids: room[:4]}
	for _, do := range []func() (api.Tree, api.Errno){
		func() (api.Tree, api.Errno) { return Meet(ranks(), x, x) },
		func() (api.Tree, api.Errno) { return Join(ranks(), x, u()) },
		func() (api.Tree, api.Errno) { return Cut(ranks(), x, 2) },
		func() (api.Tree, api.Errno) { return At(ranks(), x, nil) },
	} {
		y, e := do()
		spoil(y)
		if e != api.OK || room[4].Sym != 55 || room[0].Sym != 2 {
			t.Error(room, e)
		}
	}
}
