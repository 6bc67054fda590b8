package step

import (
	"slices"

	"virgation/api"
)

// part is a term, or a part of one, that knows its nodes. No part is ever changed, so all terms of a reduction share the
// parts that they have in common: a step takes no longer where arguments are large.
type part struct {
	kind, n int
	args    []part
	nodes   int
	open    bool // variables occur in it
}

func partOf(t api.Term) part {
	return head(t.Kind, t.N).on(each(t.Args, partOf))
}

func head(kind, n int) part {
	return part{kind: kind, n: n, nodes: 1, open: kind == api.KVar}
}

// on returns p, applied to args behind its own arguments; it keeps args.
func (p part) on(args []part) part {
	if len(args) == 0 {
		return p
	}
	for _, x := range args {
		p.nodes += x.nodes
		p.open = p.open || x.open
	}
	// Those of p are copied, as other parts share them.
	p.args = slices.Concat(p.args, args)
	return p
}

// fill returns p with closed parts in the place of its variables.
func (p part) fill(values []part) part {
	if !p.open {
		return p
	}
	whole := head(p.kind, p.n)
	if p.kind == api.KVar {
		whole = values[p.n]
	}
	return whole.on(each(p.args, func(x part) part { return x.fill(values) }))
}

// term returns the term that p is, in which nothing is shared.
func (p part) term() api.Term {
	return api.Term{Kind: p.kind, N: p.n, Args: each(p.args, part.term)}
}

// each returns what change makes of each element of list.
func each[A, B any](list []A, change func(A) B) []B {
	out := slices.Grow([]B(nil), len(list))
	for _, x := range list {
		out = append(out, change(x))
	}
	return out
}
