package sorts

import (
	"math"
	"strings"

	"virgation/api"
)

// of makes the sort with these arguments.
func of(args ...api.Sort) api.Sort {
	return api.Sort{Args: args}
}

// wide makes the sort of n trees as arguments.
func wide(n int) api.Sort {
	return of(make([]api.Sort, n)...)
}

// tall makes the sort of that depth with one argument on each level.
func tall(depth int) api.Sort {
	s := of()
	for range depth - 1 {
		s = of(s)
	}
	return s
}

// shared makes a sort with 2 to the power of levels, minus 1, nodes in little memory.
func shared(levels int) api.Sort {
	s := of()
	for range levels - 1 {
		s = of(s, s)
	}
	return s
}

// bush makes a sort that is valid but for its nodes, of which it has at least 58 and n in all.
func bush(n int) api.Sort {
	s := of()
	for range 7 {
		s.Args = append(s.Args, wide(7))
	}
	s.Args = append(s.Args, wide(n-58))
	return s
}

// deepAt makes a sort of depth 1 + levels whose innermost one has n trees as arguments.
func deepAt(levels, n int) api.Sort {
	s := wide(n)
	for range levels {
		s = of(of(), s)
	}
	return s
}

// all makes the sorts of each number of nodes up to most, in the place of that number.
func all(most int) [][]api.Sort {
	sorts := make([][]api.Sort, most+1)
	for n := 1; n <= most; n++ {
		for _, args := range lists(sorts, n-1) {
			sorts[n] = append(sorts[n], of(args...))
		}
	}
	return sorts
}

// lists makes all lists of sorts with n nodes in all.
func lists(sorts [][]api.Sort, n int) [][]api.Sort {
	if n == 0 {
		return [][]api.Sort{nil}
	}
	var out [][]api.Sort
	for first := 1; first <= n; first++ {
		for _, x := range sorts[first] {
			for _, rest := range lists(sorts, n-first) {
				out = append(out, append([]api.Sort{x}, rest...))
			}
		}
	}
	return out
}

// upTo makes all sorts with up to most nodes.
func upTo(most int) []api.Sort {
	var out []api.Sort
	for _, l := range all(most) {
		out = append(out, l...)
	}
	return out
}

// text is the string of a sort by the words of the chapter, for sorts of any size.
func text(s api.Sort) string {
	var b strings.Builder
	spell(s, func(part string) { b.WriteString(part) })
	return b.String()
}

func spell(s api.Sort, part func(string)) {
	for _, x := range s.Args {
		if len(x.Args) == 0 {
			part("o > ")
		} else {
			part("(")
			spell(x, part)
			part(") > ")
		}
	}
	part("o")
}

// levels is the depth of a sort, of any size.
func levels(s api.Sort) int {
	below := 0
	for _, x := range s.Args {
		below = max(below, levels(x))
	}
	return 1 + below
}

// badSorts are sorts that are not valid, by what is wrong with them.
func badSorts() map[string]api.Sort {
	return map[string]api.Sort{
		"nodes one too many":     bush(61),
		"nodes without end":      shared(1000),
		"depth one too much":     tall(31),
		"depth far too much":     tall(60),
		"nodes by depth":         tall(61),
		"deep as nesting goes":   tall(1 << 16),
		"nine arguments":         wide(9),
		"59 arguments":           wide(59),
		"60 arguments":           wide(60),
		"many arguments":         wide(100000),
		"nine arguments inside":  of(of(), wide(9)),
		"nine arguments far in":  deepAt(20, 9),
		"nine arguments in last": of(of(), of(), of(), of(), of(), of(), of(), wide(9)),
	}
}

// edgeSorts are valid sorts at the limits, and what is written down for o in both ways.
func edgeSorts() map[string]api.Sort {
	return map[string]api.Sort{
		"o, nil":             {},
		"o, empty":           {Args: []api.Sort{}},
		"one argument, nil":  of(api.Sort{Args: nil}),
		"one, empty":         of(api.Sort{Args: []api.Sort{}}),
		"59 nodes":           bush(59),
		"60 nodes":           bush(60),
		"depth 29":           tall(29),
		"depth 30":           tall(30),
		"seven arguments":    wide(7),
		"eight arguments":    wide(8),
		"eight inside":       of(of(), wide(8)),
		"eight far in":       deepAt(15, 8),
		"the chapter's":      of(of(of()), of()),
		"31 nodes, shared":   shared(5),
		"60 nodes, depth 30": of(tall(29), tall(29), of()),
	}
}

// extremes are numbers that are no number of arguments of any sort.
func extremes() []int {
	return []int{-1, -2, 61, 1 << 31, -1 << 31, math.MaxInt, math.MinInt}
}
