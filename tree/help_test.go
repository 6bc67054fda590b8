package tree

import (
	"math"
	"slices"
	"strconv"
	"strings"

	"virgation/api"
)

// abc are symbols a, b, c of the ranks 2, 1, 0, and q of the rank 4.
func abc() []api.Symbol {
	return []api.Symbol{{Name: "a", Rank: 2}, {Name: "b", Rank: 1}, {Name: "c"}, {Name: "q", Rank: 4}}
}

// ranks are those of abc.
func ranks() []int {
	return []int{2, 1, 0, 4}
}

// a, b, c and q are trees of the symbols abc, and u is unknown.
func a(x, y api.Tree) api.Tree       { return api.Tree{Sym: 0, Kids: []api.Tree{x, y}} }
func b(x api.Tree) api.Tree          { return api.Tree{Sym: 1, Kids: []api.Tree{x}} }
func c() api.Tree                    { return api.Tree{Sym: 2} }
func q(w, x, y, z api.Tree) api.Tree { return api.Tree{Sym: 3, Kids: []api.Tree{w, x, y, z}} }
func u() api.Tree                    { return api.Tree{Sym: -1} }

// all makes the trees of each number of nodes up to most, in the place of that number.
func all(most int) [][]api.Tree {
	trees := make([][]api.Tree, most+1)
	for n := 1; n <= most; n++ {
		if n == 1 {
			trees[n] = append(trees[n], u(), c())
		}
		for _, kids := range lists(trees, n-1, 1) {
			trees[n] = append(trees[n], b(kids[0]))
		}
		for _, kids := range lists(trees, n-1, 2) {
			trees[n] = append(trees[n], a(kids[0], kids[1]))
		}
		for _, kids := range lists(trees, n-1, 4) {
			trees[n] = append(trees[n], q(kids[0], kids[1], kids[2], kids[3]))
		}
	}
	return trees
}

// lists makes all lists of that length of trees with n nodes in all.
func lists(trees [][]api.Tree, n, length int) [][]api.Tree {
	if length == 0 && n == 0 {
		return [][]api.Tree{nil}
	}
	if length == 0 {
		return nil
	}
	var out [][]api.Tree
	for first := 1; first <= n; first++ {
		for _, x := range trees[first] {
			for _, rest := range lists(trees, n-first, length-1) {
				out = append(out, append([]api.Tree{x}, rest...))
			}
		}
	}
	return out
}

// upTo makes all trees with up to most nodes.
func upTo(most int) []api.Tree {
	return slices.Concat(all(most)...)
}

// tall makes a tree of that depth around an innermost one.
func tall(depth int, inner api.Tree) api.Tree {
	t := inner
	for range depth - 1 {
		t = b(t)
	}
	return t
}

// bush makes a tree of n nodes and little depth, with x and trees of b's above it as its leaves.
func bush(n int, x api.Tree) api.Tree {
	switch n {
	case 1:
		return x
	case 2:
		return b(x)
	}
	return a(bush((n-1)/2, x), bush(n-1-(n-1)/2, x))
}

// shared makes a tree with 2 to the power of levels, minus 1, nodes in little memory.
func shared(levels int) api.Tree {
	t := c()
	for range levels - 1 {
		t = a(t, t)
	}
	return t
}

// wide makes a tree that is not valid: a c with n kids.
func wide(n int) api.Tree {
	return api.Tree{Sym: 2, Kids: make([]api.Tree, n)}
}

// extremes are numbers that are none of anything.
func extremes() []int {
	return []int{-1, -2, 1 << 31, -1 << 31, math.MaxInt, math.MinInt}
}

// edgeTrees are trees over abc at the limits.
func edgeTrees() map[string]api.Tree {
	return map[string]api.Tree{
		"unknown":               u(),
		"unknown, empty":        {Sym: -1, Kids: []api.Tree{}},
		"rank 0, empty":         {Sym: 2, Kids: []api.Tree{}},
		"rank 1":                b(u()),
		"rank 2":                a(u(), c()),
		"rank 4":                q(u(), c(), b(u()), a(c(), c())),
		"depth 199":             tall(199, c()),
		"depth 200":             tall(200, c()),
		"depth 200, unknown":    tall(200, u()),
		"depth 200, two":        a(tall(199, u()), tall(199, c())),
		"depth 200 at the last": a(c(), tall(199, c())),
		"19999 nodes":           bush(19999, c()),
		"20000 nodes":           bush(20000, c()),
		"20000 nodes, unknown":  bush(20000, u()),
		"16383 nodes, shared":   shared(14),
	}
}

// badTrees are no trees over abc, by what is wrong with them.
func badTrees() map[string]api.Tree {
	return map[string]api.Tree{
		"unknown with a kid":      {Sym: -1, Kids: []api.Tree{c()}},
		"unknown with two":        {Sym: -1, Kids: []api.Tree{u(), u()}},
		"no kid of one":           {Sym: 1},
		"no kid of two":           {Sym: 0},
		"one kid of two":          {Sym: 0, Kids: []api.Tree{c()}},
		"three kids of two":       {Sym: 0, Kids: []api.Tree{c(), c(), c()}},
		"a kid of none":           {Sym: 2, Kids: []api.Tree{c()}},
		"two kids of one":         {Sym: 1, Kids: []api.Tree{c(), u()}},
		"three kids of four":      {Sym: 3, Kids: []api.Tree{c(), u(), c()}},
		"a symbol behind all":     {Sym: 4},
		"a symbol below unknown":  {Sym: -2},
		"wrong in the first kid":  a(api.Tree{Sym: 4}, c()),
		"wrong in the last kid":   q(c(), u(), c(), api.Tree{Sym: 0}),
		"wrong far in":            tall(200, api.Tree{Sym: 1}),
		"unknown, wrong far in":   tall(199, api.Tree{Sym: -1, Kids: []api.Tree{u()}}),
		"wrong last of the nodes": a(bush(19998, c()), api.Tree{Sym: -2}),
		"depth 201":               tall(201, c()),
		"depth 201, unknown":      tall(201, u()),
		"depth 201 at the last":   a(c(), tall(200, c())),
		"depth 20000":             tall(20000, c()),
		"deep as nesting goes":    tall(1<<16, c()),
		"20001 nodes":             bush(20001, c()),
		"20001 nodes, unknown":    bush(20001, u()),
		"32767 nodes, shared":     shared(15),
		"nodes without end":       shared(1000),
		"many kids":               wide(1 << 20),
	}
}

// badRanks are no ranks of symbols.
func badRanks() [][]int {
	list := [][]int{{2, 1, 0, 5}, {-1, 1, 0, 4}, append(ranks(), 5), append(ranks(), -1), make([]int, 25), make([]int, 1<<20)}
	for _, n := range extremes() {
		list = append(list, append(ranks(), n))
	}
	return list
}

// badSymbols are no symbols.
func badSymbols() [][]api.Symbol {
	return [][]api.Symbol{
		make([]api.Symbol, 25),
		append(abc(), api.Symbol{Name: "a"}),
		append(abc(), api.Symbol{Name: "_"}),
		append(abc(), api.Symbol{Name: ""}),
		append(abc(), api.Symbol{Name: "B"}),
		append(abc(), api.Symbol{Name: "a" + strings.Repeat("_", 24)}),
		append(abc(), api.Symbol{Name: "d", Rank: 5}),
		append(abc(), api.Symbol{Name: "d", Rank: -1}),
	}
}

// text tells trees of any form apart.
func text(t api.Tree) string {
	var w strings.Builder
	spell(&w, t)
	return w.String()
}

func spell(w *strings.Builder, t api.Tree) {
	w.WriteString(strconv.Itoa(t.Sym))
	for _, x := range t.Kids {
		w.WriteString("(")
		spell(w, x)
		w.WriteString(")")
	}
}

// isZero reports whether t is what comes together with an error.
func isZero(t api.Tree) bool {
	return t.Sym == 0 && len(t.Kids) == 0
}

// known has, for each node of t that is known, the symbols and the numbers of the kids on the way there, the node's own
// symbol at the end. A tree is at least another one if it knows all that the other one does.
func known(t api.Tree) map[string]bool {
	nodes := map[string]bool{}
	know(t, "", nodes)
	return nodes
}

func know(t api.Tree, way string, nodes map[string]bool) {
	if t.Sym == -1 {
		return
	}
	way += strconv.Itoa(t.Sym)
	nodes[way] = true
	for i, x := range t.Kids {
		know(x, way+"."+strconv.Itoa(i)+".", nodes)
	}
}

// symbolsAt has the symbols that stand at the end of each path of these nodes.
func symbolsAt(nodes map[string]bool) map[string]map[string]bool {
	found := map[string]map[string]bool{}
	for way := range nodes {
		steps := strings.Split(way, ".")
		var path []string
		for i := 1; i < len(steps); i += 2 {
			path = append(path, steps[i])
		}
		p := strings.Join(path, ".")
		if found[p] == nil {
			found[p] = map[string]bool{}
		}
		found[p][steps[len(steps)-1]] = true
	}
	return found
}

// spoil changes all that can be reached from a tree.
func spoil(t api.Tree) {
	for i := range t.Kids {
		spoil(t.Kids[i])
		t.Kids[i] = api.Tree{Sym: 77, Kids: []api.Tree{{Sym: 78}}}
	}
	_ = append(t.Kids, api.Tree{Sym: 79})
}

// disjoint reports whether no two slices in t share memory: each node is numbered where it lies, and read back.
func disjoint(t api.Tree) bool {
	next := 0
	number(t, &next)
	next = 0
	return numbered(t, &next)
}

func number(t api.Tree, next *int) {
	for i := range t.Kids {
		t.Kids[i].Sym = *next
		*next++
		number(t.Kids[i], next)
	}
}

func numbered(t api.Tree, next *int) bool {
	for _, x := range t.Kids {
		if x.Sym != *next {
			return false
		}
		*next++
		if !numbered(x, next) {
			return false
		}
	}
	return true
}
