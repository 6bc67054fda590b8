package nest

import (
	"slices"
	"testing"
)

type box struct {
	name string
	in   []box
}

func in(b box) []box {
	return b.in
}

// sample has the names in the order in which they are visited.
func sample() box {
	return box{"a", []box{{"b", nil}, {"c", []box{{"d", []box{{"e", nil}}}, {"f", nil}}}, {"g", nil}}}
}

// doubled makes a value with 2 to the power of levels, minus 1, nodes in little memory.
func doubled(levels int) box {
	b := box{name: "x"}
	for range levels - 1 {
		b.in = []box{b, b}
	}
	return b
}

// chain makes a value with one part on each level.
func chain(levels int) box {
	b := box{name: "x"}
	for range levels - 1 {
		b = box{"x", []box{b}}
	}
	return b
}

func TestAllVisitsInOrder(t *testing.T) {
	var names []string
	all := All(sample(), in, func(b box) bool {
		names = append(names, b.name)
		return true
	})
	if !all || !slices.Equal(names, []string{"a", "b", "c", "d", "e", "f", "g"}) {
		t.Error(all, names)
	}
}

func TestAllEndsWhereThePropertyFails(t *testing.T) {
	for i, last := range []string{"a", "b", "c", "d", "e", "f", "g"} {
		visited := 0
		all := All(sample(), in, func(b box) bool {
			visited++
			return b.name != last
		})
		if all || visited != i+1 {
			t.Error(last, all, visited)
		}
	}
}

func TestEach(t *testing.T) {
	var names []string
	Each(sample(), in, func(b box) { names = append(names, b.name) })
	if !slices.Equal(names, []string{"a", "b", "c", "d", "e", "f", "g"}) {
		t.Error(names)
	}
}

func TestSize(t *testing.T) {
	for _, x := range []struct {
		name               string
		b                  box
		most, nodes, depth int
	}{
		{"one", box{}, 10, 1, 1},
		{"one is too many", box{}, 0, 1, 0},
		{"sample", sample(), 10, 7, 4},
		{"sample, as many as there may be", sample(), 7, 7, 4},
		{"sample, one too many", sample(), 6, 7, 0},
		{"chain", chain(100), 100, 100, 100},
		{"chain, one too many", chain(101), 100, 101, 0},
		{"long chain", chain(1 << 16), 1 << 16, 1 << 16, 1 << 16},
		{"shared", doubled(5), 31, 31, 5},
		{"shared, too many", doubled(5), 30, 31, 0},
		{"nodes without end", doubled(1000), 1000, 1001, 0},
	} {
		if n, d := Size(x.b, in, x.most); n != x.nodes || d != x.depth {
			t.Error(x.name, n, d)
		}
	}
}
