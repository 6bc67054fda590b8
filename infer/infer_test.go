package infer

import (
	"slices"
	"strconv"
	"strings"
	"testing"

	"virgation/api"
	"virgation/sample"
	"virgation/scheme"
	"virgation/sorts"
	"virgation/term"
)

// P4.1

// calls makes n functions, each of which calls the next one.
func calls(n int) []Loose {
	var l []Loose
	for i := range n {
		l = append(l, is(0, fun((i+1)%n)))
	}
	return named(l...)
}

// rightLoose are loose functions over abc that have sorts.
func rightLoose() map[string][]Loose {
	long := "a" + strings.Repeat("_", 23)
	return map[string][]Loose{
		"one":                  named(is(0, c())),
		"itself":               named(is(0, fun(0))),
		"the longest name":     of(Loose{Name: long, Body: c()}),
		"name of a symbol":     of(Loose{Name: "a", Body: c()}),
		"name of the start":    named(Loose{Name: "z9_", Body: c()}),
		"64 functions":         calls(64),
		"eight parameters":     of(is(8, a(v(0), v(7)))),
		"none of them is used": of(is(8, c())),
		"400 nodes":            named(is(0, bush(400))),
		"400 nodes, not first": of(is(1, bush(400))),
		"depth 30":             named(is(0, tall(30))),
		"depth 30, not first":  of(is(0, tall(30))),
		"the last heads":       named(is(0, fun(1, c(), c(), sym(2))), is(3, v(2))),
	}
}

// wrongLoose are no loose functions over abc.
func wrongLoose() map[string][]Loose {
	list := map[string][]Loose{
		"none":                  {},
		"nil":                   nil,
		"65 functions":          calls(65),
		"many functions":        make([]Loose, 1<<20),
		"no name":               {{Body: c()}},
		"a name that is none":   {{Name: "F", Body: c()}},
		"a name too long":       {{Name: "a" + strings.Repeat("_", 24), Body: c()}},
		"a later name":          of(Loose{Name: "1", Body: c()}),
		"a name twice":          of(Loose{Name: "f0", Body: c()}),
		"a later name twice":    of(is(0, c()), Loose{Name: "f1", Body: c()}),
		"the start's parameter": named(is(1, c())),
		"the start's eight":     named(is(8, v(7)), is(0, c())),
		"nine parameters":       of(is(9, c())),
		"minus one parameter":   of(is(-1, c())),
		"401 nodes":             named(is(0, bush(401))),
		"401 nodes, not first":  of(is(0, bush(401))),
		"401 nodes, flat":       of(is(1, v(0, times(400, c())...))),
		"depth 31":              named(is(0, tall(31))),
		"depth 31, not first":   of(is(0, tall(31))),
		"nodes of reductions":   of(is(0, bush(api.MaxSize+1))),
		"nodes without end":     of(is(0, shared(1000))),
		"deep as nesting goes":  of(is(0, tall(1<<16))),
		"variable 0 of none":    named(is(0, v(0))),
		"variable 0 of start":   named(is(0, b(v(0))), is(1, v(0))),
		"variable 0 ahead":      of(is(1, v(0)), is(0, v(0))),
		"variable 1 of 1":       of(is(1, v(1)), is(2, v(1))),
		"variable 8 of 8":       of(is(8, v(8))),
		"function 2 of 2":       of(is(0, fun(2))),
		"symbol 3 of 3":         of(is(0, sym(3))),
		"kind 3":                of(is(1, api.Term{Kind: 3})),
		"far inside":            of(is(1, a(c(), v(0, v(0), fun(1, sym(1, v(1))))))),
		"a body that is zero":   named(is(0, api.Term{})),
	}
	for _, n := range extremes() {
		name := " " + strconv.Itoa(n)
		list["variable"+name] = of(is(1, v(n)))
		list["function"+name] = of(is(1, fun(n)))
		list["symbol"+name] = of(is(1, sym(n)))
		list["kind"+name] = of(is(1, api.Term{Kind: n}))
		list["inside"+name] = of(is(1, b(v(0, v(n)))))
		list["of parameters"+name] = of(is(n, c()))
		list["of the start's"+name] = named(is(n, c()))
	}
	return list
}

func someSymbols(n int) []api.Symbol {
	var list []api.Symbol
	for i := range n {
		list = append(list, api.Symbol{Name: "s" + strconv.Itoa(i), Rank: i % 5})
	}
	return list
}

// wrongSymbols are no symbols.
func wrongSymbols() map[string][]api.Symbol {
	list := map[string][]api.Symbol{
		"25 symbols":   someSymbols(25),
		"many symbols": make([]api.Symbol, 1<<20),
		"a name twice": {{Name: "a"}, {Name: "b"}, {Name: "a", Rank: 1}},
		"no name":      {{}},
		"a wrong name": {{Name: "a"}, {Name: "B"}},
		"too long":     {{Name: strings.Repeat("a", 25)}},
		"rank 5":       {{Name: "a", Rank: 5}},
	}
	for _, n := range extremes() {
		list["rank "+strconv.Itoa(n)] = []api.Symbol{{Name: "a"}, {Name: "b", Rank: n}}
	}
	return list
}

func TestCheck(t *testing.T) {
	for name, l := range rightLoose() {
		if e := Check(abc(), l); e != api.OK {
			t.Error(name, e)
		}
		if list, e := Sorts(abc(), l); len(list) != len(l) || e != api.OK {
			t.Error(name, len(list), e)
		}
	}
	for name, l := range wrongLoose() {
		if e := Check(abc(), l); e != api.ErrForm {
			t.Error(name, e)
		}
		fail(t, abc(), l, api.ErrForm)
	}
}

func TestCheckOfSymbols(t *testing.T) {
	loop := named(is(0, fun(0)))
	for _, syms := range [][]api.Symbol{nil, {}, abc(), someSymbols(24), {{Name: "f0", Rank: 4}}} {
		if e := Check(syms, loop); e != api.OK {
			t.Error(syms, e)
		}
		if list, e := Sorts(syms, loop); sortTexts(list) != "o" || e != api.OK {
			t.Error(syms, list, e)
		}
		if e := Check(syms, named(is(0, sym(len(syms))))); e != api.ErrForm {
			t.Error(syms, e)
		}
	}
	for name, syms := range wrongSymbols() {
		if e := Check(syms, loop); e != api.ErrArg {
			t.Error(name, e)
		}
		fail(t, syms, loop, api.ErrArg)
	}
}

func TestSymbolsAreLookedAtAheadOfFunctions(t *testing.T) {
	for name, syms := range wrongSymbols() {
		for other, l := range wrongLoose() {
			if e := Check(syms, l); e != api.ErrArg {
				t.Error(name, other, e)
			}
		}
		fail(t, syms, nil, api.ErrArg)
		fail(t, syms, named(is(0, shared(1000))), api.ErrArg)
		fail(t, syms, of(is(1, v(0, v(0)))), api.ErrArg)
	}
}

func TestFormIsLookedAtAheadOfSorts(t *testing.T) {
	twice := is(1, v(0, v(0)))
	fail(t, abc(), of(twice, is(0, v(0))), api.ErrForm)
	fail(t, abc(), of(twice, Loose{Name: "f0", Body: c()}), api.ErrForm)
	fail(t, abc(), of(is(1, v(0, times(9, c())...)), is(9, c())), api.ErrForm)
}

// P4.2

func TestSorts(t *testing.T) {
	for _, x := range []struct {
		l    []Loose
		want string
	}{
		{named(is(0, c())), "o"},
		{named(is(0, fun(0))), "o"},
		{of(is(0, c()), is(0, fun(1))), "o, o, o"},
		{of(is(1, v(0))), "o, o > o"},
		{of(is(1, c())), "o, o > o"},
		{of(is(3, fun(1, v(0), v(1), v(2)))), "o, o > o > o > o"},
		{of(is(3, fun(1, v(2), v(0), v(1)))), "o, o > o > o > o"},
		{of(is(2, v(0, v(1)))), "o, (o > o) > o > o"},
		{of(is(2, v(1, v(0)))), "o, o > (o > o) > o"},
		{of(is(2, v(0, v(0, v(1))))), "o, (o > o) > o > o"},
		{of(is(3, v(0, v(2), v(1, v(2))))), "o, (o > o > o) > (o > o) > o > o"},
		{of(is(3, v(0, v(1, v(2))))), "o, (o > o) > (o > o) > o > o"},
		{of(is(1, v(0, b()))), "o, ((o > o) > o) > o"},
		{of(is(1, v(0, a()))), "o, ((o > o > o) > o) > o"},
		{of(is(1, v(0, a(c())))), "o, ((o > o) > o) > o"},
		{of(is(2, v(0, v(1), c(), v(1)))), "o, (o > o > o > o) > o > o"},
		{of(is(2, v(0, v(1, c()), v(1)))), "o, (o > (o > o) > o) > (o > o) > o"},
		{of(is(2, a(v(0), v(1, v(0))))), "o, o > (o > o) > o"},
		{of(is(2, a(v(1, v(0)), v(0)))), "o, o > (o > o) > o"},
		{of(is(2, a(v(0, v(1)), v(1, c())))), "o, ((o > o) > o) > (o > o) > o"},
		{of(is(3, a(v(0, v(1)), v(1, v(2))))), "o, ((o > o) > o) > (o > o) > o > o"},
		{of(is(2, v(0, v(1, v(0))))), "o, (o > o) > ((o > o) > o) > o"},
		{of(is(2, v(0, fun(1, v(0))))), "o, ((o > o) > o) > o > o"},
		{of(is(4, a(v(0, v(1)), a(v(1, v(2)), v(2, v(3)))))), "o, (((o > o) > o) > o) > ((o > o) > o) > (o > o) > o > o"},
	} {
		check(t, x.l, x.want)
	}
}

func TestSortsOfFunctionsThatCallOthers(t *testing.T) {
	for _, x := range []struct {
		l    []Loose
		want string
	}{
		// What is asked for in one body is so in the others, whichever comes first.
		{named(is(0, fun(1, b())), is(1, c())), "o, (o > o) > o"},
		{of(is(1, c()), is(0, fun(1, b()))), "o, (o > o) > o, o"},
		{named(is(0, fun(1, a())), is(1, fun(2, v(0))), is(1, fun(3, v(0))), is(1, c())),
			"o, (o > o > o) > o, (o > o > o) > o, (o > o > o) > o"},
		{named(is(0, c()), is(1, fun(2, v(0))), is(1, fun(3, v(0))), is(1, v(0, c()))), "o, (o > o) > o, (o > o) > o, (o > o) > o"},
		{named(is(0, fun(1, fun(2))), is(1, v(0, c(), b())), is(2, v(1, v(0)))), "o, (o > (o > o) > o) > o, o > (o > o) > o"},
		{named(is(0, fun(1, fun(2, c()))), is(1, v(0, b())), is(2, v(1, v(0)))), "o, ((o > o) > o) > o, o > (o > o) > o"},
		{of(is(2, fun(1, v(1), v(0)))), "o, o > o > o"},
		{of(is(2, fun(1, v(1), v(0))), is(0, fun(1, b(), b()))), "o, (o > o) > (o > o) > o, o"},
		{of(is(2, fun(1, v(1), v(0))), is(2, fun(1, v(0), v(1))), is(1, a(v(0, c()), fun(2, v(0), v(0))))),
			"o, (o > o) > (o > o) > o, (o > o) > (o > o) > o, (o > o) > o"},
		// A function that ignores its argument has one sort for all that it is applied to.
		{of(is(1, c()), is(2, a(fun(1, v(0)), fun(1, v(1))))), "o, o > o, o > o > o"},
		{of(is(1, c()), is(2, a(fun(1, v(0)), a(v(0, c()), fun(1, v(1)))))), "o, (o > o) > o, (o > o) > (o > o) > o"},
		{of(is(1, c()), is(0, fun(1, fun(3))), is(2, v(0, v(1)))), "o, ((o > o) > o > o) > o, o, (o > o) > o > o"},
		// Arguments that come later than others.
		{of(is(2, v(0)), is(1, fun(1, c(), v(0)))), "o, o > o > o, o > o"},
		{of(is(1, v(0)), is(1, fun(1, v(0, c())))), "o, o > o, (o > o) > o"},
		{of(is(1, fun(2, v(0))), is(1, a(fun(1, v(0)), v(0, c(), b())))), "o, (o > (o > o) > o) > o, (o > (o > o) > o) > o"},
		{of(is(2, v(0, v(1))), is(0, fun(1, fun(1, b()), c()))), "o, (o > o) > o > o, o"},
		{of(is(2, v(0, v(1))), is(0, fun(1, a(c()), c()))), "o, (o > o) > o > o, o"},
	} {
		check(t, x.l, x.want)
	}
}

func TestNoSorts(t *testing.T) {
	for name, l := range map[string][]Loose{
		// o where there must be a function, or a function where there must be o.
		"a tree is applied":          named(is(0, c2(c()))),
		"too many arguments":         named(is(0, b(c(), c()))),
		"of a function":              of(is(1, fun(1, c(), c()))),
		"the start is applied":       named(is(0, fun(0, c()))),
		"of a parameter":             of(is(1, b(v(0, v(0, c()), c())))),
		"a symbol as body":           named(is(0, b())),
		"a function as body":         of(is(1, fun(1))),
		"a part as body":             of(is(1, a(v(0)))),
		"a part of a function":       of(is(2, fun(1, v(1)))),
		"a function for a tree":      named(is(0, b(b()))),
		"a part for a tree":          named(is(0, a(c(), a(c())))),
		"a tree for a function":      of(is(1, v(0, c())), is(0, fun(1, c()))),
		"another function":           of(is(1, v(0, c())), is(0, fun(1, a()))),
		"two sorts of a parameter":   of(is(1, a(v(0), v(0, c())))),
		"two numbers of arguments":   of(is(1, a(v(0, c()), v(0, c(), c())))),
		"two sorts of an argument":   of(is(1, a(v(0, c()), v(0, b())))),
		"of a function that ignores": of(is(1, c()), is(0, a(fun(1, c()), fun(1, b())))),
		"of one that hands on":       of(is(1, fun(2, v(0))), is(1, c()), is(0, a(fun(1, c()), fun(2, b())))),
		"exchanged arguments":        of(is(2, fun(1, v(1), v(0))), is(0, fun(1, c(), b()))),
		"far from the start":         of(is(0, c()), is(0, c()), is(0, c2(c())), is(0, c())),
		// Sorts that would be in themselves.
		"itself as argument":          of(is(1, v(0, v(0)))),
		"with others":                 of(is(2, v(0, v(1), v(0)))),
		"a function of itself":        of(is(1, fun(1, fun(1)))),
		"that ignores it":             of(is(1, c()), is(0, fun(1, fun(1)))),
		"two functions of each other": of(is(1, fun(2, fun(1))), is(1, fun(1, fun(2)))),
		"two parameters":              of(is(2, a(v(0, v(1)), v(1, v(0))))),
		"three parameters":            of(is(3, all(v(0, v(1)), v(1, v(2)), v(2, v(0))))),
		"by another function":         of(is(2, v(0, v(1))), is(1, fun(1, v(0), v(0)))),
		"by three of them":            of(is(2, v(0, v(1))), is(2, fun(1, v(1), v(0))), is(1, fun(2, v(0), v(0)))),
		"as its result":               of(is(2, fun(1, v(0, v(1)), v(1)))),
		"in an argument's argument":   of(is(2, v(1, fun(1, v(0))))),
	} {
		if e := Check(abc(), l); e != api.OK {
			t.Error(name, e)
		}
		fail(t, abc(), l, api.ErrSort)
	}
}

// c2 is c, applied to an argument.
func c2(x api.Term) api.Term {
	return sym(2, x)
}

// chain makes functions f1, .., fn, each of which is applied to the one ahead of it: fi has i + 1 nodes and that depth.
func chain(n int) []Loose {
	l := of(is(1, b(v(0))))
	for i := 2; i <= n; i++ {
		l = append(l, is(1, fun(i, fun(i-1))))
	}
	return named(l...)
}

// fan makes a function with parameters that are applied to so many trees each.
func fan(args ...int) []Loose {
	var list []api.Term
	for i, n := range args {
		list = append(list, v(i, times(n, c())...))
	}
	return of(is(len(args), all(list...)))
}

func TestSortsAtTheLimits(t *testing.T) {
	for name, x := range map[string]struct {
		l            []Loose
		nodes, depth int
	}{
		"eight arguments": {fan(8), 10, 3},
		"60 nodes":        {fan(8, 7, 7, 7, 7, 7, 8, 0), 60, 3},
		"depth 30":        {chain(29), 30, 30},
	} {
		list, e := Sorts(abc(), x.l)
		if len(list) != len(x.l) || e != api.OK {
			t.Fatal(name, sortTexts(list), e)
		}
		checkScheme(t, x.l, list)
		nodes, depth := sorts.Size(list[len(list)-1])
		if nodes != x.nodes || depth != x.depth {
			t.Error(name, nodes, depth)
		}
	}
	ninth := is(1, v(0, times(9, c())...))
	for name, l := range map[string][]Loose{
		"nine arguments":           fan(9),
		"398 arguments":            fan(398),
		"of the first":             of(ninth, is(0, c())),
		"of the last":              of(is(1, v(0)), is(0, c()), ninth),
		"61 nodes":                 fan(8, 7, 7, 7, 7, 7, 8, 1),
		"72 nodes":                 fan(8, 8, 8, 8, 8, 8, 8, 7),
		"depth 31":                 chain(30),
		"depth 31, not last":       append(chain(30), Loose{Name: "g", Body: c()}),
		"depth 64":                 chain(63),
		"nine arguments, in parts": of(is(2, v(1, v(0, times(5, c())...))), is(1, v(0, times(4, c())...)), is(1, fun(1, v(0), fun(2)))),
	} {
		if e := Check(abc(), l); e != api.OK {
			t.Error(name, e)
		}
		fail(t, abc(), l, api.ErrLimit)
	}
}

// doubled makes n functions with two rows of parameters in each, where each parameter is applied to the one ahead of
// it, twice. The rows go on in the next function; what is behind the last one is handed the ends of both.
func doubled(n int, behind ...Loose) []Loose {
	l := of()
	for i := range n {
		l = append(l, is(7, all(
			v(2, v(0), v(0)), v(4, v(2), v(2)), v(3, v(1), v(1)), v(5, v(3), v(3)), v(6, fun(i+2, v(4), v(5))),
		)))
	}
	return named(append(l, behind...)...)
}

func TestSortsFarTooLarge(t *testing.T) {
	ignore := is(2, c())
	join := is(3, a(v(2, v(0)), v(2, v(1))))
	again := is(3, v(2, fun(1, v(0))))
	begin := is(1, v(0, fun(1, c(), b())))
	check(t, doubled(1, ignore), "o, o > o > (o > o > o) > (o > o > o) > ((o > o > o) > (o > o > o) > o) > ((o > o > o) > (o > o > o) > o) > (o > o) > o, "+
		"((o > o > o) > (o > o > o) > o) > ((o > o > o) > (o > o > o) > o) > o")
	for _, n := range []int{2, 3, 10, 61} {
		fail(t, abc(), doubled(n, ignore), api.ErrLimit)
		fail(t, abc(), doubled(n, join), api.ErrLimit)
		fail(t, abc(), doubled(n, ignore, begin), api.ErrLimit)
		// Whether there are sorts is decided ahead of their size.
		fail(t, abc(), doubled(n, again), api.ErrSort)
		fail(t, abc(), doubled(n, join, begin), api.ErrSort)
	}
	fail(t, abc(), append(fan(9), Loose{Name: "g", Params: 1, Body: v(0, v(0))}), api.ErrSort)
	fail(t, abc(), append(fan(9), Loose{Name: "g", Body: b(b())}), api.ErrSort)
	fail(t, abc(), append([]Loose{{Name: "g", Body: b(b())}}, fan(9)...), api.ErrSort)
}

func TestSortsWithManyArguments(t *testing.T) {
	l := of()
	for i := range 62 {
		l = append(l, is(2, v(1, fun(i+2, v(0, times(390, c())...)))))
	}
	fail(t, abc(), named(append(l, is(2, c()))...), api.ErrLimit)
	fail(t, abc(), named(append(l, is(2, v(1, fun(1, v(0)))))...), api.ErrSort)
}

// P4.3, P4.5

// checkScheme expects the scheme of l with these sorts.
func checkScheme(t *testing.T, l []Loose, list []api.Sort) {
	t.Helper()
	s, e := Scheme(abc(), l)
	if e != api.OK || scheme.Check(s) != api.OK || !slices.Equal(s.Syms, abc()) || len(s.Funs) != len(l) || len(list) != len(l) {
		t.Fatalf("%s: %s, %v", text(l), schemeText(s), e)
	}
	for i, f := range s.Funs {
		if f.Name != l[i].Name || !sorts.Same(f.Sort, list[i]) || len(f.Sort.Args) != l[i].Params || !term.Same(f.Body, l[i].Body) {
			t.Errorf("%s: %s", text(l), schemeText(s))
		}
	}
}

func TestSchemesOfOtherSymbols(t *testing.T) {
	syms := []api.Symbol{{Name: "f0", Rank: 4}, {Name: "x"}}
	l := named(is(0, fun(1, sym(0, sym(1), sym(1)))), is(1, v(0, sym(1), fun(0))))
	s, e := Scheme(syms, l)
	if want := "f0/4; x/0; f0 : o = f1 (#0 #1 #1); f1 : (o > o > o) > o = $0 #1 f0; "; schemeText(s) != want || e != api.OK {
		t.Error(schemeText(s), e)
	}
	s, e = Scheme(nil, named(is(0, fun(0))))
	if schemeText(s) != "f0 : o = f0; " || scheme.Check(s) != api.OK || e != api.OK {
		t.Error(schemeText(s), e)
	}
	fail(t, []api.Symbol{{Name: "a", Rank: 1}}, named(is(0, sym(0, sym(0), sym(0)))), api.ErrSort)
}

// P4.4

func TestSchemesNeedNoSorts(t *testing.T) {
	fewer := 0
	for _, s := range sample.Schemes(1000) {
		if e := scheme.Check(s); e != api.OK {
			t.Fatal(schemeText(s), e)
		}
		l := loosen(s)
		list, e := Sorts(abc(), l)
		if e != api.OK {
			t.Fatal(schemeText(s), e)
		}
		checkScheme(t, l, list)
		for i, x := range list {
			if !within(x, s.Funs[i].Sort) {
				t.Error(schemeText(s), sortTexts(list))
			}
			if !sorts.Same(x, s.Funs[i].Sort) {
				fewer++
			}
		}
	}
	if fewer < 100 {
		t.Error("too few sorts became smaller", fewer)
	}
}

// within reports whether x results from y by replacing sorts by o, and has at most the order and nodes.
func within(x, y api.Sort) bool {
	order, _ := sorts.Order(x)
	most, _ := sorts.Order(y)
	nodes, _ := sorts.Size(x)
	room, _ := sorts.Size(y)
	return order <= most && nodes <= room && replaced(x, y)
}

func replaced(x, y api.Sort) bool {
	if len(x.Args) == 0 || len(y.Args) == 0 {
		return len(x.Args) == 0
	}
	return replaced(x.Args[0], y.Args[0]) && replaced(to(x.Args[1:]...), to(y.Args[1:]...))
}

// Rule 3

// samples are loose functions of all forms that have sorts.
func samples() [][]Loose {
	list := [][]Loose{doubled(1, is(2, c())), chain(29), fan(8)}
	for _, l := range rightLoose() {
		list = append(list, l)
	}
	for _, s := range sample.Schemes(100) {
		list = append(list, loosen(s))
	}
	return list
}

func TestArgumentsAreLeftAsTheyAre(t *testing.T) {
	for _, l := range append(samples(), of(is(1, v(0, v(0)))), fan(9), of(is(1, v(1)))) {
		syms, before := abc(), text(l)
		Check(syms, l)
		Sorts(syms, l)
		Scheme(syms, l)
		if text(l) != before || !slices.Equal(syms, abc()) {
			t.Error(before, text(l), syms)
		}
	}
}

func TestResultsAreNewMemory(t *testing.T) {
	for _, l := range samples() {
		syms, before := abc(), text(l)
		list, _ := Sorts(syms, l)
		s, _ := Scheme(syms, l)
		first, whole := sortTexts(list), schemeText(s)
		for i := range list {
			spoilSort(list[i])
			spoilSort(s.Funs[i].Sort)
			spoilTerm(s.Funs[i].Body)
		}
		clear(list)
		clear(s.Funs)
		clear(s.Syms)
		if text(l) != before || !slices.Equal(syms, abc()) {
			t.Error(before, text(l), syms)
		}
		list, _ = Sorts(syms, l)
		s, _ = Scheme(syms, l)
		if sortTexts(list) != first || schemeText(s) != whole {
			t.Error(first, sortTexts(list), whole, schemeText(s))
		}
	}
}

func spoilSort(s api.Sort) {
	for i, x := range s.Args {
		spoilSort(x)
		s.Args[i] = to(to(), to())
	}
}

func spoilTerm(t api.Term) {
	for i, x := range t.Args {
		spoilTerm(x)
		t.Args[i] = api.Term{Kind: 9}
	}
}

func TestPartsOfResultsShareNoMemory(t *testing.T) {
	// In the arguments all is shared, and what is known of the sorts is the same at many places.
	twice := a(fun(1, b(), b()), fun(1, b(), b()))
	l := of(is(2, a(v(0, c()), v(1, c()))), is(0, a(twice, twice)), is(2, fun(1, v(0), v(1))), is(2, fun(1, v(1), v(0))))
	s, e := Scheme(abc(), l)
	if e != api.OK {
		t.Fatal(e)
	}
	next := 0
	for _, f := range s.Funs { // each node is numbered where it lies, and read back
		number(f.Body, &next)
	}
	next = 0
	for _, f := range s.Funs {
		numbered(t, f.Body, &next)
	}
	list, _ := Sorts(abc(), l)
	for _, sort := range [][]api.Sort{list, {s.Funs[0].Sort, s.Funs[1].Sort, s.Funs[2].Sort, s.Funs[3].Sort, s.Funs[4].Sort}} {
		sort[1].Args[0].Args[0] = to(to())
		if x := sortTexts(sort); x != "o, ((o > o) > o) > (o > o) > o, o, (o > o) > (o > o) > o, (o > o) > (o > o) > o" {
			t.Error(x)
		}
	}
}

func number(t api.Term, next *int) {
	for i := range t.Args {
		t.Args[i].N = *next
		*next++
		number(t.Args[i], next)
	}
}

func numbered(t *testing.T, x api.Term, next *int) {
	for _, y := range x.Args {
		if y.N != *next {
			t.Error("two parts of a result share memory")
		}
		*next++
		numbered(t, y, next)
	}
}

// The chapter's example.

func TestExample(t *testing.T) {
	f := is(1, a(v(0), fun(1, b(v(0)))))
	l := named(is(0, fun(1, c())), f)
	check(t, l, "o, o > o")
	s, _ := Scheme(abc(), l)
	x, e := scheme.Put(s)
	if x != "symbol a 2\nsymbol b 1\nsymbol c 0\nfun f0 : o = f1 #c\nfun f1 : o > o = #a $0 (f1 (#b $0))\n" || e != api.OK {
		t.Error(x, e)
	}
	fail(t, abc(), of(is(1, v(0, v(0)))), api.ErrSort)
	check(t, of(is(2, v(0))), "o, o > o > o")
}
