package infer

import (
	"slices"
	"testing"

	"virgation/api"
	"virgation/sample"
	"virgation/sorts"
)

// P4.2, P4.4: all assignments of small sorts are tried, and held against the result.

// shelf numbers sorts: o is 0, each other one is an arrow between two of them.
type shelf struct {
	from, to []int
	known    map[[2]int]int
}

func newShelf() *shelf {
	return &shelf{from: []int{-1}, to: []int{-1}, known: map[[2]int]int{}}
}

func (s *shelf) arrow(from, to int) int {
	n, found := s.known[[2]int{from, to}]
	if !found {
		n = len(s.from)
		s.from, s.to = append(s.from, from), append(s.to, to)
		s.known[[2]int{from, to}] = n
	}
	return n
}

// upTo returns the sorts of at most so many nodes.
func (s *shelf) upTo(nodes int) []int {
	by := [][]int{nil, {0}}
	for n := 2; n <= nodes; n++ {
		var list []int
		for k := 1; k < n; k++ {
			for _, from := range by[k] {
				for _, to := range by[n-k] {
					list = append(list, s.arrow(from, to))
				}
			}
		}
		by = append(by, list)
	}
	return slices.Concat(by...)
}

func (s *shelf) sort(n int) api.Sort {
	var x api.Sort
	for ; n != 0; n = s.to[n] {
		x.Args = append(x.Args, s.sort(s.from[n]))
	}
	return x
}

// function returns the sort with these arguments.
func (s *shelf) function(args []int) int {
	n := 0
	for _, x := range slices.Backward(args) {
		n = s.arrow(x, n)
	}
	return n
}

// of returns the sort of t, or -1, for the sorts of heads by kind and number.
func (s *shelf) of(t api.Term, heads [][]int) int {
	n := heads[t.Kind][t.N]
	for _, x := range t.Args {
		if n == 0 || s.of(x, heads) != s.from[n] {
			return -1
		}
		n = s.to[n]
	}
	return n
}

// each calls do with each list of n of these sorts.
func each(n int, of []int, do func([]int)) {
	list := make([]int, n)
	var fill func(int)
	fill = func(i int) {
		if i == n {
			do(list)
			return
		}
		for _, x := range of {
			list[i] = x
			fill(i + 1)
		}
	}
	fill(0)
}

// assignments returns those of l in which all parameters have one of these sorts, as the numbers of the functions' sorts.
func (s *shelf) assignments(l []Loose, of []int) [][]int {
	n := 0
	for _, f := range l {
		n += f.Params
	}
	syms := []int{s.function([]int{0, 0}), s.function([]int{0}), 0}
	var found [][]int
	each(n, of, func(list []int) {
		var params [][]int
		var funs []int
		rest := list
		for _, f := range l {
			params = append(params, rest[:f.Params])
			funs = append(funs, s.function(rest[:f.Params]))
			rest = rest[f.Params:]
		}
		for i, f := range l {
			if s.of(f.Body, [][]int{params[i], funs, syms}) != 0 {
				return
			}
		}
		found = append(found, funs)
	})
	return found
}

// hold holds the result for l against all of these assignments, and reports whether there is any.
func (s *shelf) hold(t *testing.T, l []Loose, of []int) bool {
	t.Helper()
	found := s.assignments(l, of)
	list, e := Sorts(abc(), l)
	if len(found) == 0 && e == api.ErrSort {
		return false
	}
	if e != api.OK {
		t.Fatalf("%s: %v, and %d assignments", text(l), e, len(found))
	}
	checkScheme(t, l, list)
	for i, x := range list {
		for _, y := range found {
			if !within(x, s.sort(y[i])) {
				t.Fatalf("%s: %s, but %s is one, too", text(l), sortTexts(list), sortText(s.sort(y[i])))
			}
		}
	}
	return len(found) > 0
}

// terms returns all terms of so many nodes with these heads.
func terms(nodes int, heads []api.Term) []api.Term {
	lists := map[int][][]api.Term{0: {nil}} // of terms with so many nodes in all
	for n := 1; n < nodes; n++ {
		for first := 1; first <= n; first++ {
			for _, x := range terms(first, heads) {
				for _, rest := range lists[n-first] {
					lists[n] = append(lists[n], append([]api.Term{x}, rest...))
				}
			}
		}
	}
	var list []api.Term
	for _, h := range heads {
		for _, args := range lists[nodes-1] {
			list = append(list, api.Term{Kind: h.Kind, N: h.N, Args: args})
		}
	}
	return list
}

func TestSortsOfAllSmallFunctions(t *testing.T) {
	s := newShelf()
	small := s.upTo(5)
	if len(small) != 1+1+2+5+14 {
		t.Fatal(len(small))
	}
	for params := range 3 {
		heads := []api.Term{fun(1), a(), b(), c(), v(0), v(1)}[:4+params]
		all, some := 0, 0
		for nodes := 1; nodes <= 4; nodes++ {
			for _, x := range terms(nodes, heads) {
				all++
				if s.hold(t, of(is(params, x)), small) {
					some++
				}
			}
		}
		if some < 20 || all-some < 100 {
			t.Error(params, all, some)
		}
	}
}

func TestSortsOfSomeFunctions(t *testing.T) {
	s := newShelf()
	small := s.upTo(4)
	r := new(sample.Chance)
	some := 0
	for range 5000 {
		l := of(is(1+r.Below(2), c()), is(r.Below(3), c()))
		for i, f := range l {
			l[i].Body = loose(r, l, f.Params, 2)
		}
		if s.hold(t, l, small) {
			some++
		}
	}
	if some < 500 || some > 4500 {
		t.Error("too few functions have sorts, or none", some)
	}
}

// loose makes a body of at most depth + 1 levels that may have no sort.
func loose(r *sample.Chance, l []Loose, params, depth int) api.Term {
	var t api.Term
	args := r.Below(3)
	if params > 0 && r.Below(2) == 0 {
		t = v(r.Below(params))
	} else if depth > 0 && r.Below(3) > 0 {
		n := 1 + r.Below(len(l)-1)
		t, args = fun(n), l[n].Params
	} else {
		n := r.Below(3)
		t, args = sym(n), 2-n
	}
	if depth == 0 || r.Below(8) == 0 {
		args = 0
	}
	for range args {
		t.Args = append(t.Args, loose(r, l, params, depth-1))
	}
	return t
}

func TestGuessesOfAllSmallSorts(t *testing.T) {
	s := newShelf()
	for _, n := range s.upTo(6) {
		for _, m := range s.upTo(6) {
			x, y := s.guess(n), s.guess(m)
			if join(x, y) != (n == m) {
				t.Error(sortText(s.sort(n)), sortText(s.sort(m)))
			}
			if n != m {
				continue
			}
			if z, valid := x.settle(); !valid || !sorts.Same(z, s.sort(n)) || x.endless() || x.last() != y.last() {
				t.Error(sortText(s.sort(n)), sortText(z))
			}
		}
	}
}

// guess makes one of which all is known.
func (s *shelf) guess(n int) *guess {
	if n == 0 {
		return &guess{kind: tree}
	}
	return &guess{kind: arrow, from: s.guess(s.from[n]), to: s.guess(s.to[n])}
}
