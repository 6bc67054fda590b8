// Package sorts is layer 1: sorts of functions. See shared/doc/01-sorts.md.
package sorts

import (
	"slices"

	"virgation/api"
	"virgation/nest"
)

// Check returns ErrSort if s is not a valid sort, otherwise OK.
func Check(s api.Sort) api.Errno {
	nodes, depth := Size(s)
	if nodes > api.MaxSort || depth > api.MaxDeep || !nest.All(s, parts, fewArgs) {
		return api.ErrSort
	}
	return api.OK
}

func parts(s api.Sort) []api.Sort {
	return s.Args
}

func fewArgs(s api.Sort) bool {
	return len(s.Args) <= api.MaxArgs
}

// Size returns the nodes and the depth of s, or MaxSort + 1 and 0 if it has more than MaxSort nodes.
func Size(s api.Sort) (nodes, depth int) {
	return nest.Size(s, parts, api.MaxSort)
}

// Same reports whether a and b are equal; it is false if one of them has more than MaxSort nodes.
func Same(a, b api.Sort) bool {
	return countable(a) && countable(b) && equal(a, b)
}

func countable(s api.Sort) bool {
	nodes, _ := Size(s)
	return nodes <= api.MaxSort
}

func equal(a, b api.Sort) bool {
	return slices.EqualFunc(a.Args, b.Args, equal)
}

// Order returns the order of s.
func Order(s api.Sort) (int, api.Errno) {
	if e := Check(s); e != api.OK {
		return 0, e
	}
	return order(s), api.OK
}

func order(s api.Sort) int {
	n := 0
	for _, x := range s.Args {
		n = max(n, 1+order(x))
	}
	return n
}

// Behind returns the sort that s is behind k arguments.
func Behind(s api.Sort, k int) (api.Sort, api.Errno) {
	if e := Check(s); e != api.OK {
		return api.Sort{}, e
	}
	if k < 0 || k > len(s.Args) {
		return api.Sort{}, api.ErrArg
	}
	return clone(api.Sort{Args: s.Args[k:]}), api.OK
}

// clone copies all levels, because a result shares no memory with an argument.
func clone(s api.Sort) api.Sort {
	var c api.Sort
	for _, x := range s.Args {
		c.Args = append(c.Args, clone(x))
	}
	return c
}
