// Package nest visits values that are made of values of their own kind, as sorts and terms are.
package nest

// All reports whether x and all values in it have a property; parts returns those that a value is made of.
// It visits a value ahead of its parts, and nothing more once the property fails.
func All[T any](x T, parts func(T) []T, has func(T) bool) bool {
	return visit(x, 1, parts, func(y T, level int) bool { return has(y) })
}

// Each calls do for x and all values in it, in the order of All.
func Each[T any](x T, parts func(T) []T, do func(T)) {
	All(x, parts, func(y T) bool {
		do(y)
		return true
	})
}

// Size returns the nodes and the depth of x, or most + 1 and 0 if it has more than most nodes.
func Size[T any](x T, parts func(T) []T, most int) (nodes, depth int) {
	// The visit ends at the first node too many: a value whose parts are shared may have more nodes than can be counted.
	small := visit(x, 1, parts, func(y T, level int) bool {
		nodes++
		depth = max(depth, level)
		return nodes <= most
	})
	if !small {
		return most + 1, 0
	}
	return nodes, depth
}

// visit is All with a property that is told the level of a value, too (that of x is given).
func visit[T any](x T, level int, parts func(T) []T, has func(x T, level int) bool) bool {
	if !has(x, level) {
		return false
	}
	for _, y := range parts(x) {
		if !visit(y, level+1, parts, has) {
			return false
		}
	}
	return true
}
