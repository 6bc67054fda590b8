package term

import (
	"math"
	"strconv"
	"strings"

	"virgation/api"
)

func v(n int, args ...api.Term) api.Term {
	return api.Term{Kind: api.KVar, N: n, Args: args}
}

func fun(n int, args ...api.Term) api.Term {
	return api.Term{Kind: api.KFun, N: n, Args: args}
}

func sym(n int, args ...api.Term) api.Term {
	return api.Term{Kind: api.KSym, N: n, Args: args}
}

// to makes the sort with these arguments.
func to(args ...api.Sort) api.Sort {
	return api.Sort{Args: args}
}

func tallSort(depth int) api.Sort {
	s := to()
	for range depth - 1 {
		s = to(s)
	}
	return s
}

// wide makes a term with this many nodes, all but the first its arguments.
func wide(nodes int) api.Term {
	t := sym(0)
	for range nodes - 1 {
		t.Args = append(t.Args, sym(1))
	}
	return t
}

// tall makes a term of that depth around an innermost one, with one argument on each level.
func tall(depth int, inner api.Term) api.Term {
	t := inner
	for range depth - 1 {
		t = sym(1, t)
	}
	return t
}

// shared makes a term with 2 to the power of levels, minus 1, nodes in little memory.
func shared(levels int, inner api.Term) api.Term {
	t := inner
	for range levels - 1 {
		t = sym(0, t, t)
	}
	return t
}

// largeTerms are terms with more than MaxSize nodes.
func largeTerms() map[string]api.Term {
	return map[string]api.Term{
		"one node too many, wide": wide(api.MaxSize + 1),
		"one node too many, tall": tall(api.MaxSize+1, sym(2)),
		"far in":                  sym(1, sym(1, v(0, wide(api.MaxSize-2)))),
		"twice the limit":         wide(2 * api.MaxSize),
		"2^17 - 1, shared":        shared(17, sym(2)),
		"nodes without end":       shared(1000, sym(2)),
		"of a negative variable":  v(-1, shared(1000, sym(2))),
		"of an unknown kind":      api.Term{Kind: 3, Args: []api.Term{shared(1000, sym(2))}},
		"around variables":        shared(1000, v(-1)),
	}
}

// extremes are numbers that are none of anything.
func extremes() []int {
	return []int{-1, -2, 1 << 31, -1 << 31, math.MaxInt, math.MinInt}
}

// text tells terms of any form apart.
func text(t api.Term) string {
	var b strings.Builder
	spell(&b, t)
	return b.String()
}

func spell(b *strings.Builder, t api.Term) {
	b.WriteString(strconv.Itoa(t.Kind) + ":" + strconv.Itoa(t.N))
	for _, x := range t.Args {
		b.WriteString("(")
		spell(b, x)
		b.WriteString(")")
	}
}

func texts(list []api.Term) string {
	return text(api.Term{Args: list})
}

func sortText(s api.Sort) string {
	var b strings.Builder
	for _, x := range s.Args {
		b.WriteString("(" + sortText(x) + ")")
	}
	return b.String()
}

// allOf makes the terms of each number of nodes up to most with these heads, in the place of that number.
func allOf(heads []api.Term, most int) [][]api.Term {
	terms := make([][]api.Term, most+1)
	for n := 1; n <= most; n++ {
		for _, args := range lists(terms, n-1) {
			for _, h := range heads {
				terms[n] = append(terms[n], api.Term{Kind: h.Kind, N: h.N, Args: args})
			}
		}
	}
	return terms
}

// lists makes all lists of terms with n nodes in all.
func lists(terms [][]api.Term, n int) [][]api.Term {
	if n == 0 {
		return [][]api.Term{nil}
	}
	var out [][]api.Term
	for first := 1; first <= n; first++ {
		for _, x := range terms[first] {
			for _, rest := range lists(terms, n-first) {
				out = append(out, append([]api.Term{x}, rest...))
			}
		}
	}
	return out
}

// upTo makes all terms with these heads and up to most nodes.
func upTo(heads []api.Term, most int) []api.Term {
	var out []api.Term
	for _, l := range allOf(heads, most) {
		out = append(out, l...)
	}
	return out
}

// sorted makes all terms with up to most nodes that have a sort in p, by their texts, with the texts of the sorts.
// Terms are made of a head and of arguments that fit; nothing is checked afterwards.
func sorted(p Place, most int) map[string]string {
	found := map[string]string{}
	bySize := make([]map[string][]string, most+1) // terms of that many nodes, by their sorts
	for n := 1; n <= most; n++ {
		bySize[n] = map[string][]string{}
		put := func(head string, s api.Sort) {
			grow(bySize, head, s, n-1, func(t string, rest api.Sort) {
				found[t] = sortText(rest)
				bySize[n][sortText(rest)] = append(bySize[n][sortText(rest)], t)
			})
		}
		for i, s := range p.Params {
			put("0:"+strconv.Itoa(i), s)
		}
		for i, s := range p.Funs {
			put("1:"+strconv.Itoa(i), s)
		}
		for i, x := range p.Syms {
			put("2:"+strconv.Itoa(i), to(make([]api.Sort, x.Rank)...))
		}
	}
	return found
}

// grow puts behind a term of the sort s arguments that have nodes in all.
func grow(bySize []map[string][]string, t string, s api.Sort, nodes int, done func(t string, rest api.Sort)) {
	if nodes == 0 {
		done(t, s)
		return
	}
	if len(s.Args) == 0 {
		return
	}
	for n := 1; n <= nodes; n++ {
		for _, x := range bySize[n][sortText(s.Args[0])] {
			grow(bySize, t+"("+x+")", to(s.Args[1:]...), nodes-n, done)
		}
	}
}

// curried is a term in which every application has one argument, so that substitution only puts terms in place of leaves.
type curried struct {
	head        api.Term // without arguments; of leaves
	fun, of     *curried
	application bool
}

func curry(t api.Term) *curried {
	c := &curried{head: api.Term{Kind: t.Kind, N: t.N}}
	for _, x := range t.Args {
		c = &curried{fun: c, of: curry(x), application: true}
	}
	return c
}

func uncurry(c *curried) api.Term {
	if !c.application {
		return c.head
	}
	t := uncurry(c.fun)
	return api.Term{Kind: t.Kind, N: t.N, Args: append(t.Args, uncurry(c.of))}
}

func (c *curried) subst(args []api.Term) *curried {
	if c.application {
		return &curried{fun: c.fun.subst(args), of: c.of.subst(args), application: true}
	}
	if c.head.Kind == api.KVar {
		return curry(args[c.head.N])
	}
	return c
}

// spoil changes all that can be reached from a result.
func spoil(t api.Term) {
	for i := range t.Args {
		spoil(t.Args[i])
		t.Args[i] = fun(77, fun(77))
	}
	_ = append(t.Args, fun(77))
}

func spoilSort(s api.Sort) {
	for i := range s.Args {
		spoilSort(s.Args[i])
		s.Args[i] = tallSort(9)
	}
	_ = append(s.Args, tallSort(9))
}

// disjoint reports whether no two slices in t share memory: each node is numbered where it lies, and read back.
func disjoint(t api.Term) bool {
	next := 0
	number(t, &next)
	next = 0
	return numbered(t, &next)
}

func number(t api.Term, next *int) {
	for i := range t.Args {
		t.Args[i].N = *next
		*next++
		number(t.Args[i], next)
	}
}

func numbered(t api.Term, next *int) bool {
	for _, x := range t.Args {
		if x.N != *next {
			return false
		}
		*next++
		if !numbered(x, next) {
			return false
		}
	}
	return true
}
