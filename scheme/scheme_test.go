package scheme

import (
	"slices"
	"testing"

	"virgation/api"
	"virgation/sorts"
	"virgation/term"
)

// P3.1

func TestCheck(t *testing.T) {
	for name, s := range rightSchemes() {
		if e := Check(s); e != api.OK {
			t.Error(name, e)
		}
	}
	for name, s := range wrongSchemes() {
		if e := Check(s); e != api.ErrScheme {
			t.Error(name, e)
		}
	}
}

func TestCheckOfSomeSchemes(t *testing.T) {
	right, wrong := someSchemes(500)
	for _, s := range right {
		if e := Check(s); e != api.OK {
			t.Error(text(s), e)
		}
	}
	for _, s := range wrong {
		if e := Check(s); e != api.ErrScheme {
			t.Error(text(s), e)
		}
	}
	if len(wrong) < 50 {
		t.Error("too few schemes that are none", len(wrong))
	}
}

func TestTheOtherFunctionsReturnTheErrorOfCheck(t *testing.T) {
	for name, s := range wrongSchemes() {
		if n, e := Order(s); n != 0 || e != api.ErrScheme {
			t.Error(name, n, e)
		}
		if l, e := Ranks(s); len(l) != 0 || e != api.ErrScheme {
			t.Error(name, l, e)
		}
		if l, e := Reach(s); len(l) != 0 || e != api.ErrScheme {
			t.Error(name, l, e)
		}
		if x, e := Put(s); x != "" || e != api.ErrScheme {
			t.Error(name, len(x), e)
		}
	}
}

func TestSame(t *testing.T) {
	for name, a := range rightSchemes() {
		for other, b := range rightSchemes() {
			if Same(a, b) != (name == other) {
				t.Error(name, other)
			}
		}
		for other, b := range wrongSchemes() {
			if Same(a, b) || Same(b, a) {
				t.Error(name, other)
			}
		}
	}
	for name, s := range wrongSchemes() {
		if Same(s, s) {
			t.Error(name)
		}
	}
}

func TestSameOfSomeSchemes(t *testing.T) {
	right, _ := someSchemes(60)
	for _, a := range right {
		for _, b := range right {
			if Same(a, b) != (text(a) == text(b)) {
				t.Error(text(a), text(b))
			}
		}
	}
}

func TestSameSeesEachPart(t *testing.T) {
	for name, change := range map[string]func(*api.Scheme){
		"a symbol's name":       func(s *api.Scheme) { s.Syms[2].Name = "d" },
		"a rank":                func(s *api.Scheme) { s.Syms[3].Rank = 1 },
		"a symbol more":         func(s *api.Scheme) { s.Syms = append(s.Syms, api.Symbol{Name: "d"}) },
		"a symbol less":         func(s *api.Scheme) { s.Syms = s.Syms[:3] },
		"the order of symbols":  func(s *api.Scheme) { s.Syms[3], s.Syms[4] = s.Syms[4], s.Syms[3] },
		"a function's name":     func(s *api.Scheme) { s.Funs[1].Name = "g" },
		"a sort":                func(s *api.Scheme) { s.Funs[2].Sort = to() },
		"a head's number":       func(s *api.Scheme) { s.Funs[3].Body = v(1) },
		"a head's kind":         func(s *api.Scheme) { s.Funs[1].Body.Args[0] = sym(2) },
		"a head's arguments":    func(s *api.Scheme) { s.Funs[0].Body = sym(2) },
		"a function more":       func(s *api.Scheme) { s.Funs = append(s.Funs, api.Fun{Name: "h", Body: sym(2)}) },
		"a function less":       func(s *api.Scheme) { s.Funs = s.Funs[:3] },
		"the order of the last": func(s *api.Scheme) { s.Funs[2], s.Funs[3] = s.Funs[3], s.Funs[2] },
	} {
		const x = sums + "fun g0 : o > o = #c\nfun g1 : o > o > o = $0\n"
		a, b := get(t, x), get(t, x)
		a.Syms = append(a.Syms, api.Symbol{Name: "x"}, api.Symbol{Name: "y"})
		b.Syms = append(b.Syms, api.Symbol{Name: "x"}, api.Symbol{Name: "y"})
		if !Same(a, b) {
			t.Error(name)
		}
		change(&b)
		if Check(b) != api.OK || Same(a, b) || Same(b, a) {
			t.Error(name, text(b))
		}
	}
}

func TestNilAndEmptySlicesAreEquivalent(t *testing.T) {
	c := api.Term{Kind: api.KSym, Args: []api.Term{}}
	a := api.Scheme{Syms: []api.Symbol{{Name: "c"}}, Funs: []api.Fun{{Name: "s", Sort: api.Sort{Args: []api.Sort{}}, Body: c}}}
	b := api.Scheme{Syms: []api.Symbol{{Name: "c"}}, Funs: []api.Fun{{Name: "s", Body: sym(0)}}}
	if Check(a) != api.OK || !Same(a, b) || !Same(b, a) {
		t.Error("in functions")
	}
	loop := []api.Fun{{Name: "s", Body: fun(0)}}
	if !Same(api.Scheme{Syms: []api.Symbol{}, Funs: loop}, api.Scheme{Funs: loop}) {
		t.Error("of symbols")
	}
	if Check(api.Scheme{Syms: []api.Symbol{}, Funs: []api.Fun{}}) != api.ErrScheme {
		t.Error("of functions")
	}
}

// P3.2

func TestOrder(t *testing.T) {
	o := to()
	for _, x := range []struct {
		s     api.Scheme
		order int
	}{
		{start(sym(2)), 0},
		{functions(64), 0},
		{body(to(o), v(0)), 1},
		{body(wideSort(8), v(7)), 1},
		{body(to(to(o), o), v(1)), 2},
		{body(tallSort(30), sym(2)), 29},
		{rightSchemes()["order 3"], 3},
		{rightSchemes()["not the last is most"], 2},
	} {
		if n, e := Order(x.s); n != x.order || e != api.OK {
			t.Error(text(x.s), n, e)
		}
	}
	right, _ := someSchemes(100)
	for _, s := range right {
		want := 0
		for _, f := range s.Funs {
			want = max(want, order(f.Sort))
		}
		if n, e := Order(s); n != want || e != api.OK {
			t.Error(text(s), n, e)
		}
	}
}

func order(s api.Sort) int {
	n := 0
	for _, x := range s.Args {
		n = max(n, 1+order(x))
	}
	return n
}

func TestRanks(t *testing.T) {
	for _, x := range []struct {
		s    api.Scheme
		want []int
	}{
		{start(sym(2)), []int{2, 1, 0}},
		{rightSchemes()["one function alone"], nil},
		{withSymbols(symbols(7)...), []int{0, 1, 2, 3, 4, 0, 1}},
		{withSymbols(api.Symbol{Name: "b", Rank: 4}, api.Symbol{Name: "a", Rank: 4}), []int{4, 4}},
	} {
		if l, e := Ranks(x.s); !slices.Equal(l, x.want) || e != api.OK {
			t.Error(text(x.s), l, e)
		}
	}
}

func TestReach(t *testing.T) {
	for _, x := range []struct {
		name string
		s    api.Scheme
		want []int
	}{
		{"itself", start(fun(0)), []int{0}},
		{"nothing", start(sym(2)), []int{0}},
		{"not called", of(api.Fun{Body: sym(2)}, api.Fun{Body: fun(0)}), []int{0}},
		{"calls of what is not needed", of(api.Fun{Body: fun(2)}, api.Fun{Body: fun(3)}, api.Fun{Body: sym(2)}, api.Fun{Body: sym(2)}), []int{0, 2}},
		{"backwards", of(api.Fun{Body: fun(3)}, api.Fun{Body: sym(2)}, api.Fun{Body: fun(1)}, api.Fun{Body: fun(2)}), []int{0, 1, 2, 3}},
		{"in arguments", of(api.Fun{Body: sym(0, sym(2), sym(1, fun(1)))}, api.Fun{Body: sym(0, fun(0), fun(3))}, api.Fun{Body: sym(2)}, api.Fun{Body: sym(2)}), []int{0, 1, 3}},
		{"not applied", of(api.Fun{Body: fun(1, fun(2))}, api.Fun{Sort: to(to(to())), Body: sym(2)}, api.Fun{Sort: to(to()), Body: fun(3)}, api.Fun{Body: sym(2)}), []int{0, 1, 2, 3}},
		{"numbers of other kinds", of(api.Fun{Body: sym(1, fun(3, sym(2)))}, api.Fun{Body: fun(1)}, api.Fun{Body: fun(2)}, api.Fun{Sort: to(to()), Body: v(0)}), []int{0, 3}},
		{"64 functions", functions(64), upTo(64)},
	} {
		if l, e := Reach(x.s); !slices.Equal(l, x.want) || e != api.OK {
			t.Error(x.name, l, e)
		}
	}
	right, _ := someSchemes(300)
	for _, s := range right {
		if l, e := Reach(s); !slices.Equal(l, needed(s)) || e != api.OK {
			t.Error(text(s), l, e)
		}
	}
}

func upTo(n int) []int {
	var list []int
	for i := range n {
		list = append(list, i)
	}
	return list
}

// needed marks functions until nothing changes.
func needed(s api.Scheme) []int {
	marks := make([]bool, len(s.Funs))
	marks[0] = true
	for range s.Funs {
		for i, f := range s.Funs {
			if marks[i] {
				mark(f.Body, marks)
			}
		}
	}
	var list []int
	for i, m := range marks {
		if m {
			list = append(list, i)
		}
	}
	return list
}

func mark(t api.Term, marks []bool) {
	if t.Kind == api.KFun {
		marks[t.N] = true
	}
	for _, x := range t.Args {
		mark(x, marks)
	}
}

// P3.5

func TestBodiesHaveTheSortOfTrees(t *testing.T) {
	for name, s := range samples() {
		p := term.Place{Syms: s.Syms}
		for _, f := range s.Funs {
			p.Funs = append(p.Funs, f.Sort)
		}
		for i, f := range s.Funs {
			p.Params = f.Sort.Args
			if x, e := term.Sort(p, f.Body); len(x.Args) != 0 || e != api.OK {
				t.Error(name, i, e)
			}
		}
		if n, e := sorts.Order(s.Funs[0].Sort); n != 0 || e != api.OK {
			t.Error(name, n, e)
		}
	}
}

func TestWithoutFunctionsThatAreNotNeeded(t *testing.T) {
	for name, s := range samples() {
		keep, _ := Reach(s)
		less := api.Scheme{Syms: s.Syms}
		for _, i := range keep {
			f := s.Funs[i]
			f.Body = renumbered(f.Body, keep)
			less.Funs = append(less.Funs, f)
		}
		if e := Check(less); e != api.OK {
			t.Error(name, e)
		}
		whole, _ := Order(s)
		if n, e := Order(less); n > whole || e != api.OK {
			t.Error(name, n, whole, e)
		}
	}
}

func renumbered(t api.Term, keep []int) api.Term {
	x := api.Term{Kind: t.Kind, N: t.N}
	if t.Kind == api.KFun {
		x.N = slices.Index(keep, t.N)
	}
	for _, y := range t.Args {
		x.Args = append(x.Args, renumbered(y, keep))
	}
	return x
}

// samples are valid schemes of all forms.
func samples() map[string]api.Scheme {
	list := rightSchemes()
	right, _ := someSchemes(300)
	for _, s := range right {
		list[text(s)] = s
	}
	return list
}

// Rule 3

func TestArgumentsAreLeftAsTheyAre(t *testing.T) {
	for name, s := range samples() {
		before := text(s)
		Check(s)
		Same(s, s)
		Order(s)
		Ranks(s)
		Reach(s)
		Put(s)
		if text(s) != before {
			t.Error(name)
		}
	}
}

func TestResultsAreNewMemory(t *testing.T) {
	s := get(t, sums)
	for _, list := range []func(api.Scheme) ([]int, api.Errno){Ranks, Reach} {
		l, _ := list(s)
		want := slices.Clone(l)
		for i := range l {
			l[i] = 77
		}
		if l, e := list(s); !slices.Equal(l, want) || e != api.OK {
			t.Error(l, want, e)
		}
	}
	if text(s) != sums {
		t.Error(text(s))
	}
}

// The chapter's example.

func TestExample(t *testing.T) {
	s := get(t, sums)
	if !Same(s, sumsNamed("s", "f")) {
		t.Error(text(s))
	}
	if n, e := Order(s); n != 1 || e != api.OK {
		t.Error(n, e)
	}
}

// sumsNamed is the scheme of the chapter's example with these names of its functions.
func sumsNamed(names ...string) api.Scheme {
	s := rightSchemes()["sums"]
	for i, name := range names {
		s.Funs[i].Name = name
	}
	return s
}
