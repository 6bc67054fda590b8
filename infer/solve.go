package infer

import (
	"slices"

	"virgation/api"
	"virgation/nest"
	"virgation/sorts"
)

// guess is what is known of a sort.
type guess struct {
	same     *guess // the one that it was found to be the same as, if any: what is known is kept there
	kind     int
	from, to *guess // of an arrow
	visit    int
}

// Kinds of guesses.
const (
	unknown = iota
	tree
	arrow
)

// How far the search for a guess in itself has come.
const (
	ahead = iota
	inside
	behind
)

// last returns the guess that stands for all that are the same as g.
func (g *guess) last() *guess {
	for g.same != nil {
		if g.same.same != nil {
			g.same = g.same.same // the next search is shorter
		}
		g = g.same
	}
	return g
}

// join makes g and h the same, and all in them; false if one of these pairs is o and an arrow.
func join(g, h *guess) bool {
	g, h = g.last(), h.last()
	switch {
	case g == h:
		return true
	case g.kind == unknown:
		g.same = h
		return true
	case h.kind == unknown:
		h.same = g
		return true
	case g.kind != h.kind:
		return false
	}
	// They are the same ahead of their parts: where one of them is in itself, joining ends, too.
	g.same = h
	return g.kind == tree || join(g.from, h.from) && join(g.to, h.to)
}

// args returns the arguments of the sort that g is; that must not have itself as what is behind some of them.
func (g *guess) args() []*guess {
	var list []*guess
	for g = g.last(); g.kind == arrow; g = g.to.last() {
		list = append(list, g.from)
	}
	return list
}

// endless reports whether g has, at any depth, a part that is a part of itself: no sort is like that.
func (g *guess) endless() bool {
	g = g.last()
	if g.kind != arrow || g.visit == behind {
		return false
	}
	if g.visit == inside {
		return true
	}
	g.visit = inside
	if g.from.endless() || g.to.endless() {
		return true
	}
	g.visit = behind
	return false
}

// settle returns the sort that g is if what is not known is o; false if that is not valid.
func (g *guess) settle() (api.Sort, bool) {
	// The sort is made only if it is small: where many parts are the same, it has far more nodes than there are guesses.
	if nodes, _ := nest.Size(g, (*guess).args, api.MaxSort); nodes > api.MaxSort {
		return api.Sort{}, false
	}
	s := g.whole()
	return s, sorts.Check(s) == api.OK
}

// whole is settle without a limit.
func (g *guess) whole() api.Sort {
	var s api.Sort
	for _, x := range g.args() {
		s.Args = append(s.Args, x.whole())
	}
	return s
}

// function makes the guess of a sort with n arguments of a kind.
func function(n, kind int) *guess {
	g := &guess{kind: tree}
	for range n {
		g = &guess{kind: arrow, from: &guess{kind: kind}, to: g}
	}
	return g
}

// heads are the guesses of heads, by kind and number.
type heads [3][]*guess

// solve returns what is known of the sorts of l, where that has an assignment.
func solve(syms []api.Symbol, l []Loose) (funs []*guess, found bool) {
	var h heads
	for _, x := range syms {
		h[api.KSym] = append(h[api.KSym], function(x.Rank, tree))
	}
	for _, f := range l {
		h[api.KFun] = append(h[api.KFun], function(f.Params, unknown))
	}
	funs = h[api.KFun]
	for i, f := range l {
		h[api.KVar] = funs[i].args()
		if g, right := h.sort(f.Body); !right || !join(g, &guess{kind: tree}) {
			return nil, false
		}
	}
	// All sorts in bodies are parts of those of the heads, and symbols have finite ones.
	return funs, !slices.ContainsFunc(funs, (*guess).endless)
}

// sort returns what is known of the sort of t.
func (h heads) sort(t api.Term) (*guess, bool) {
	g := h[t.Kind][t.N]
	for _, x := range t.Args {
		arg, right := h.sort(x)
		result := &guess{}
		if !right || !join(g, &guess{kind: arrow, from: arg, to: result}) {
			return nil, false
		}
		g = result
	}
	return g, true
}
