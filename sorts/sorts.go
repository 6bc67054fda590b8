// Package sorts is layer 1: sorts of functions. See shared/doc/01-sorts.md.
package sorts

import (
	"slices"

	"virgation/api"
)

// Check returns ErrSort if s is not a valid sort, otherwise OK.
func Check(s api.Sort) api.Errno {
	nodes, depth := Size(s)
	if nodes > api.MaxSort || depth > api.MaxDeep || !everywhere(s, fewArgs) {
		return api.ErrSort
	}
	return api.OK
}

func fewArgs(x api.Sort, level int) bool {
	return len(x.Args) <= api.MaxArgs
}

// Size returns the nodes and the depth of s, or MaxSort + 1 and 0 if it has more than MaxSort nodes.
func Size(s api.Sort) (nodes, depth int) {
	// The visit ends at the first node too many: a sort whose parts are shared may have more nodes than can be counted.
	small := everywhere(s, func(x api.Sort, level int) bool {
		nodes++
		depth = max(depth, level)
		return nodes <= api.MaxSort
	})
	if !small {
		return api.MaxSort + 1, 0
	}
	return nodes, depth
}

// everywhere reports whether s and all sorts in it have a property, which is told their levels, too (that of s is 1).
// It visits a sort ahead of its arguments, and nothing more once the property fails.
func everywhere(s api.Sort, has func(x api.Sort, level int) bool) bool {
	return everywhereFrom(s, 1, has)
}

func everywhereFrom(s api.Sort, level int, has func(x api.Sort, level int) bool) bool {
	if !has(s, level) {
		return false
	}
	for _, x := range s.Args {
		if !everywhereFrom(x, level+1, has) {
			return false
		}
	}
	return true
}

// Same reports whether a and b are equal; it is false if one of them has more than MaxSort nodes.
func Same(a, b api.Sort) bool {
	return countable(a) && countable(b) && equal(a, b)
}

func countable(s api.Sort) bool {
	nodes, _ := Size(s)
	return nodes <= api.MaxSort
}

func equal(a, b api.Sort) bool {
	return slices.EqualFunc(a.Args, b.Args, equal)
}

// Order returns the order of s.
func Order(s api.Sort) (int, api.Errno) {
	if e := Check(s); e != api.OK {
		return 0, e
	}
	return order(s), api.OK
}

func order(s api.Sort) int {
	n := 0
	for _, x := range s.Args {
		n = max(n, 1+order(x))
	}
	return n
}

// Behind returns the sort that s is behind k arguments.
func Behind(s api.Sort, k int) (api.Sort, api.Errno) {
	if e := Check(s); e != api.OK {
		return api.Sort{}, e
	}
	if k < 0 || k > len(s.Args) {
		return api.Sort{}, api.ErrArg
	}
	return clone(api.Sort{Args: s.Args[k:]}), api.OK
}

// clone copies all levels, because a result shares no memory with an argument.
func clone(s api.Sort) api.Sort {
	var c api.Sort
	for _, x := range s.Args {
		c.Args = append(c.Args, clone(x))
	}
	return c
}
