package scheme

import (
	"slices"
	"strconv"
	"strings"
	"testing"

	"virgation/api"
)

// sums is the scheme of the chapter's example.
const sums = "symbol a 2\nsymbol b 1\nsymbol c 0\nfun s : o = f #c\nfun f : o > o = #a $0 (f (#b $0))\n"

func v(n int, args ...api.Term) api.Term {
	return api.Term{Kind: api.KVar, N: n, Args: args}
}

func fun(n int, args ...api.Term) api.Term {
	return api.Term{Kind: api.KFun, N: n, Args: args}
}

func sym(n int, args ...api.Term) api.Term {
	return api.Term{Kind: api.KSym, N: n, Args: args}
}

// to makes the sort with these arguments.
func to(args ...api.Sort) api.Sort {
	return api.Sort{Args: args}
}

// abc are symbols of the ranks 2, 1, 0.
func abc() []api.Symbol {
	return []api.Symbol{{Name: "a", Rank: 2}, {Name: "b", Rank: 1}, {Name: "c"}}
}

// of makes a scheme of the symbols abc and functions f0, f1, ..
func of(funs ...api.Fun) api.Scheme {
	for i := range funs {
		if funs[i].Name == "" {
			funs[i].Name = "f" + strconv.Itoa(i)
		}
	}
	return api.Scheme{Syms: abc(), Funs: funs}
}

// body makes a scheme whose second function has this sort and body.
func body(s api.Sort, t api.Term) api.Scheme {
	return of(api.Fun{Body: sym(2)}, api.Fun{Sort: s, Body: t})
}

// start makes a scheme of one function with this body.
func start(t api.Term) api.Scheme {
	return of(api.Fun{Body: t})
}

func named(name string) api.Scheme {
	return of(api.Fun{Name: name, Body: sym(2)})
}

func withSymbols(syms ...api.Symbol) api.Scheme {
	return api.Scheme{Syms: syms, Funs: []api.Fun{{Name: "s", Body: fun(0)}}}
}

func symbols(n int) []api.Symbol {
	var list []api.Symbol
	for i := range n {
		list = append(list, api.Symbol{Name: "s" + strconv.Itoa(i), Rank: i % 5})
	}
	return list
}

// functions makes a scheme of n functions, each of which calls the next one.
func functions(n int) api.Scheme {
	var list []api.Fun
	for i := range n {
		list = append(list, api.Fun{Body: fun((i + 1) % n)})
	}
	return of(list...)
}

// bush makes a term of n nodes and little depth of the symbols abc.
func bush(n int) api.Term {
	switch n {
	case 1:
		return sym(2)
	case 2:
		return sym(1, sym(2))
	}
	return sym(0, bush((n-1)/2), bush(n-1-(n-1)/2))
}

func tall(depth int) api.Term {
	t := sym(2)
	for range depth - 1 {
		t = sym(1, t)
	}
	return t
}

// shared makes a term with 2 to the power of levels, minus 1, nodes in little memory.
func shared(levels int) api.Term {
	t := sym(2)
	for range levels - 1 {
		t = sym(0, t, t)
	}
	return t
}

func tallSort(depth int) api.Sort {
	s := to()
	for range depth - 1 {
		s = to(s)
	}
	return s
}

func wideSort(args int) api.Sort {
	return to(make([]api.Sort, args)...)
}

// bigSort makes a sort that is valid but for its nodes, of which it has at least 58 and n in all.
func bigSort(n int) api.Sort {
	s := to()
	for range 7 {
		s.Args = append(s.Args, wideSort(7))
	}
	s.Args = append(s.Args, wideSort(n-58))
	return s
}

// rightSchemes are valid schemes, each different from the others.
func rightSchemes() map[string]api.Scheme {
	o := to()
	return map[string]api.Scheme{
		"one function alone":    {Funs: []api.Fun{{Name: "s", Body: fun(0)}}},
		"one symbol":            {Syms: []api.Symbol{{Name: "s"}}, Funs: []api.Fun{{Name: "s", Body: sym(0)}}},
		"sums":                  of(api.Fun{Body: fun(1, sym(2))}, api.Fun{Sort: to(o), Body: sym(0, v(0), fun(1, sym(1, v(0))))}),
		"the longest name":      named("a" + strings.Repeat("_", 23)),
		"name of a symbol":      named("a"),
		"24 symbols":            withSymbols(symbols(24)...),
		"64 functions":          functions(64),
		"400 nodes":             start(bush(400)),
		"400 nodes, not first":  body(o, bush(400)),
		"depth 30":              start(tall(30)),
		"eight parameters":      body(wideSort(8), sym(0, v(7), v(0))),
		"a sort of 60 nodes":    body(bigSort(60), sym(2)),
		"a sort of depth 30":    body(tallSort(30), sym(2)),
		"a function as arg":     body(to(to(o), o), v(0, v(0, v(1)))),
		"a symbol as arg":       of(api.Fun{Body: fun(1, sym(1), sym(2))}, api.Fun{Sort: to(to(o), o), Body: v(0, v(0, v(1)))}),
		"a part of a symbol":    of(api.Fun{Body: fun(1, sym(0, sym(2)))}, api.Fun{Sort: to(to(o)), Body: v(0, v(0, sym(2)))}),
		"a part of a function":  of(api.Fun{Body: fun(1, fun(2, sym(2)))}, api.Fun{Sort: to(to(o)), Body: v(0, sym(2))}, api.Fun{Sort: to(o, o), Body: v(1)}),
		"a part of a parameter": of(api.Fun{Body: fun(1, sym(0))}, api.Fun{Sort: to(to(o, o)), Body: fun(2, v(0, sym(2)))}, api.Fun{Sort: to(to(o)), Body: v(0, sym(2))}),
		"order 3":               of(api.Fun{Body: sym(2)}, api.Fun{Sort: to(to(to(o))), Body: v(0, sym(1))}),
		"not the last is most":  of(api.Fun{Body: sym(2)}, api.Fun{Sort: to(to(o)), Body: sym(2)}, api.Fun{Sort: to(o), Body: v(0)}),
	}
}

// wrongSchemes are no schemes.
func wrongSchemes() map[string]api.Scheme {
	o := to()
	list := map[string]api.Scheme{
		"nothing":                 {},
		"no functions":            {Syms: abc()},
		"65 functions":            functions(65),
		"many functions":          {Syms: abc(), Funs: make([]api.Fun, 1<<20)},
		"no name":                 {Funs: []api.Fun{{Body: fun(0)}}},
		"a name that is none":     named("A"),
		"a name too long":         named("a" + strings.Repeat("_", 24)),
		"a later name":            of(api.Fun{Body: sym(2)}, api.Fun{Name: "_", Body: sym(2)}),
		"a name twice":            of(api.Fun{Name: "f1", Body: sym(2)}, api.Fun{Body: sym(2)}),
		"25 symbols":              withSymbols(symbols(25)...),
		"a symbol twice":          withSymbols(api.Symbol{Name: "a", Rank: 2}, api.Symbol{Name: "b"}, api.Symbol{Name: "a", Rank: 1}),
		"a symbol without name":   withSymbols(api.Symbol{}),
		"a symbol's name":         withSymbols(api.Symbol{Name: "0"}),
		"rank 5":                  withSymbols(api.Symbol{Name: "a", Rank: 5}),
		"rank -1":                 withSymbols(api.Symbol{Name: "a", Rank: -1}),
		"the start has arguments": of(api.Fun{Sort: to(o), Body: v(0)}),
		"a function as body":      body(to(o), fun(1)),
		"a symbol as body":        start(sym(1)),
		"a parameter as body":     body(to(to(o)), v(0)),
		"a part as body":          start(sym(0, sym(2))),
		"401 nodes":               start(bush(401)),
		"401 nodes, not first":    body(o, bush(401)),
		"depth 31":                start(tall(31)),
		"depth 31, not first":     body(o, tall(31)),
		"nodes of reductions":     start(bush(api.MaxSize + 1)),
		"nodes without end":       start(shared(1000)),
		"deep as nesting goes":    start(tall(1 << 16)),
		"too many arguments":      start(sym(2, sym(2))),
		"arguments of a function": start(fun(0, sym(2))),
		"a tree for a function":   of(api.Fun{Body: fun(1, sym(2))}, api.Fun{Sort: to(to(o)), Body: sym(2)}),
		"a function for a tree":   start(sym(1, sym(1))),
		"another function":        of(api.Fun{Body: fun(1, sym(0))}, api.Fun{Sort: to(to(o)), Body: sym(2)}),
		"nine parameters":         body(wideSort(9), sym(2)),
		"a sort of 61 nodes":      body(bigSort(61), sym(2)),
		"a sort of depth 31":      body(tallSort(31), sym(2)),
		"the start's sort":        of(api.Fun{Sort: wideSort(9), Body: sym(2)}),
	}
	for _, n := range extremes() {
		name := strconv.Itoa(n)
		list["variable "+name] = body(to(o), v(n))
		list["function "+name] = start(fun(n))
		list["symbol "+name] = start(sym(n))
		list["inside "+name] = start(sym(1, sym(1, v(n))))
		list["kind "+name] = start(api.Term{Kind: n})
		list["rank "+name] = withSymbols(api.Symbol{Name: "a", Rank: n})
	}
	list["variable 0 of none"] = start(v(0))
	list["variable 1 of 1"] = body(to(o), v(1))
	list["function 1 of 1"] = start(fun(1))
	list["symbol 3 of 3"] = start(sym(3))
	list["kind 3"] = start(api.Term{Kind: 3})
	return list
}

// extremes are numbers that are none of anything.
func extremes() []int {
	return []int{-1, -2, 1 << 31, -1 << 31, 1<<63 - 1, -1 << 63}
}

// text is the string of a scheme by the words of the chapter, of any size; it tells schemes of any form apart.
func text(s api.Scheme) string {
	var b strings.Builder
	for _, x := range s.Syms {
		b.WriteString("symbol " + x.Name + " " + strconv.Itoa(x.Rank) + "\n")
	}
	for _, f := range s.Funs {
		b.WriteString("fun " + f.Name + " : " + sortText(f.Sort) + " = " + termText(s, f.Body) + "\n")
	}
	return b.String()
}

func sortText(s api.Sort) string {
	parts := ""
	for _, x := range s.Args {
		if len(x.Args) == 0 {
			parts += "o > "
		} else {
			parts += "(" + sortText(x) + ") > "
		}
	}
	return parts + "o"
}

func termText(s api.Scheme, t api.Term) string {
	var b strings.Builder
	spell(&b, s, t)
	return b.String()
}

func spell(b *strings.Builder, s api.Scheme, t api.Term) {
	if t.Kind == api.KVar {
		b.WriteString("$" + strconv.Itoa(t.N))
	} else if t.Kind == api.KFun && t.N >= 0 && t.N < len(s.Funs) {
		b.WriteString(s.Funs[t.N].Name)
	} else if t.Kind == api.KSym && t.N >= 0 && t.N < len(s.Syms) {
		b.WriteString("#" + s.Syms[t.N].Name)
	} else {
		b.WriteString(strconv.Itoa(t.Kind) + "?" + strconv.Itoa(t.N))
	}
	for _, x := range t.Args {
		open, shut := " ", ""
		if len(x.Args) > 0 {
			open, shut = " (", ")"
		}
		b.WriteString(open)
		spell(b, s, x)
		b.WriteString(shut)
	}
}

// get returns the scheme with this string.
func get(t *testing.T, text string) api.Scheme {
	t.Helper()
	s, e := Get(text)
	if e != api.OK {
		t.Fatalf("%.200q %v", text, e)
	}
	return s
}

// isZero reports whether s is the zero value.
func isZero(s api.Scheme) bool {
	return len(s.Syms) == 0 && len(s.Funs) == 0
}

// chance makes numbers that look like chance, always the same ones.
type chance uint64

func (c *chance) below(n int) int {
	*c = *c*6364136223846793005 + 1442695040888963407
	return int(uint64(*c)>>33) % n
}

// someSchemes makes n valid schemes of many forms, and tells those that came out as no schemes.
func someSchemes(n int) (right, wrong []api.Scheme) {
	c := new(chance)
	for len(right) < n {
		s := c.scheme()
		if strings.Contains(text(s), "?") || slices.ContainsFunc(s.Funs, func(f api.Fun) bool { return nodes(f.Body) > 400 }) {
			wrong = append(wrong, s)
		} else {
			right = append(right, s)
		}
	}
	return right, wrong
}

func nodes(t api.Term) int {
	n := 1
	for _, x := range t.Args {
		n += nodes(x)
	}
	return n
}

// scheme makes a scheme that is valid unless there was no term of some sort, or only large ones.
func (c *chance) scheme() api.Scheme {
	s := api.Scheme{Syms: abc()}
	for i := range 1 + c.below(6) {
		f := api.Fun{Name: "f" + strconv.Itoa(i)}
		if i > 0 {
			f.Sort = c.sort(3)
		}
		s.Funs = append(s.Funs, f)
	}
	for i, f := range s.Funs {
		s.Funs[i].Body = c.term(s, f.Sort.Args, to(), 4)
	}
	return s
}

func (c *chance) sort(depth int) api.Sort {
	s := to()
	if depth > 0 {
		for range c.below(4) {
			s.Args = append(s.Args, c.sort(depth-1-c.below(2)))
		}
	}
	return s
}

// term makes a term of the sort want, of few levels if there are such heads.
func (c *chance) term(s api.Scheme, params []api.Sort, want api.Sort, depth int) api.Term {
	type head struct {
		t api.Term
		s api.Sort
	}
	var heads, flat []head
	add := func(t api.Term, s api.Sort) {
		behind := len(s.Args) - len(want.Args)
		if behind >= 0 && sortText(to(s.Args[behind:]...)) == sortText(want) {
			heads = append(heads, head{t, s})
			if behind == 0 {
				flat = append(flat, head{t, s})
			}
		}
	}
	for i, x := range params {
		add(v(i), x)
	}
	for i, f := range s.Funs {
		add(fun(i), f.Sort)
	}
	for i, x := range s.Syms {
		add(sym(i), wideSort(x.Rank))
	}
	if depth <= 0 && len(flat) > 0 {
		heads = flat
	}
	if len(heads) == 0 || depth < -6 {
		return sym(99) // a symbol that is not there
	}
	h := heads[c.below(len(heads))]
	for _, x := range h.s.Args[:len(h.s.Args)-len(want.Args)] {
		h.t.Args = append(h.t.Args, c.term(s, params, x, depth-1))
	}
	return h.t
}
