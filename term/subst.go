package term

import (
	"slices"

	"virgation/api"
	"virgation/nest"
)

// Subst returns t with args in the place of its variables.
func Subst(t api.Term, args []api.Term) (api.Term, api.Errno) {
	sizes, small := sizesOf(args)
	if !small || tooLarge(t) {
		return api.Term{}, api.ErrLimit
	}
	covered := nest.All(t, parts, func(x api.Term) bool {
		return x.Kind != api.KVar || x.N >= 0 && x.N < len(args)
	})
	if !covered {
		return api.Term{}, api.ErrArg
	}
	if !fits(t, sizes) {
		return api.Term{}, api.ErrLimit
	}
	return fill(t, args), api.OK
}

// sizesOf returns the nodes of each term of list; false if one of them has more than MaxSize.
func sizesOf(list []api.Term) ([]int, bool) {
	sizes := make([]int, 0, len(list))
	for _, x := range list {
		nodes, _ := Size(x)
		if nodes > api.MaxSize {
			return nil, false
		}
		sizes = append(sizes, nodes)
	}
	return sizes, true
}

// fits reports whether t has at most MaxSize nodes when terms of these sizes stand in the place of its variables.
// It is asked ahead of making that term, which may be far larger.
func fits(t api.Term, sizes []int) bool {
	nodes := 0
	return nest.All(t, parts, func(x api.Term) bool {
		if x.Kind == api.KVar {
			nodes += sizes[x.N]
		} else {
			nodes++
		}
		return nodes <= api.MaxSize
	})
}

// fill makes the term of Subst. It copies an arg wherever it stands: no two parts of a result share memory.
func fill(t api.Term, args []api.Term) api.Term {
	whole := api.Term{Kind: t.Kind, N: t.N}
	if t.Kind == api.KVar {
		whole = clone(args[t.N])
	}
	whole.Args = appendEach(whole.Args, t.Args, func(x api.Term) api.Term {
		return fill(x, args)
	})
	return whole
}

// Apply returns t, applied to args behind its own arguments.
func Apply(t api.Term, args []api.Term) (api.Term, api.Errno) {
	whole := api.Term{Kind: t.Kind, N: t.N, Args: slices.Concat(t.Args, args)}
	if tooLarge(whole) {
		return api.Term{}, api.ErrLimit
	}
	return clone(whole), api.OK
}

// clone copies all levels, because a result shares no memory with an argument.
func clone(t api.Term) api.Term {
	return api.Term{Kind: t.Kind, N: t.N, Args: appendEach(nil, t.Args, clone)}
}

// appendEach appends what change makes of each term of list.
func appendEach(to, list []api.Term, change func(api.Term) api.Term) []api.Term {
	to = slices.Grow(to, len(list))
	for _, x := range list {
		to = append(to, change(x))
	}
	return to
}
