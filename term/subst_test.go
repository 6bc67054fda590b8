package term

import (
	"testing"

	"virgation/api"
)

// P2.4

func TestSubst(t *testing.T) {
	c := sym(2)
	for _, x := range []struct {
		name string
		t    api.Term
		args []api.Term
		want api.Term
	}{
		{"no variable, no args", sym(0, c), nil, sym(0, c)},
		{"no variable, args", fun(3, c), []api.Term{c, c}, fun(3, c)},
		{"a variable", v(0), []api.Term{c}, c},
		{"the right one", v(1), []api.Term{sym(0), sym(1)}, sym(1)},
		{"arg with arguments", v(0), []api.Term{sym(0, c, c)}, sym(0, c, c)},
		{"variable with arguments", v(0, c), []api.Term{sym(1)}, sym(1, c)},
		{"first the arg's own", v(0, sym(5)), []api.Term{sym(0, sym(4))}, sym(0, sym(4), sym(5))},
		{"and those in order", v(0, sym(5), sym(6)), []api.Term{fun(0, sym(3), sym(4))}, fun(0, sym(3), sym(4), sym(5), sym(6))},
		{"replaced in them, too", v(0, v(1), v(0, v(1))), []api.Term{sym(0, c), sym(7)}, sym(0, c, sym(7), sym(0, c, sym(7)))},
		{"at once", v(0, v(1)), []api.Term{v(1), v(0)}, v(1, v(0))},
		{"not in args", v(0), []api.Term{v(5, v(0))}, v(5, v(0))},
		{"negative in args", sym(0, v(0)), []api.Term{v(-1)}, sym(0, v(-1))},
		{"a function's number", fun(0, v(0)), []api.Term{c}, fun(0, c)},
		{"a symbol's number", sym(0, v(0)), []api.Term{c}, sym(0, c)},
		{"other kinds stay", api.Term{Kind: 3, N: 0, Args: []api.Term{v(0)}}, []api.Term{c}, api.Term{Kind: 3, Args: []api.Term{c}}},
		{"the chapter's", v(0, v(0, v(1))), []api.Term{sym(0, c), c}, sym(0, c, sym(0, c, c))},
	} {
		if y, e := Subst(x.t, x.args); text(y) != text(x.want) || e != api.OK {
			t.Error(x.name, text(y), e)
		}
	}
}

func TestSubstOfAllSmallTerms(t *testing.T) {
	lists := [][]api.Term{
		{v(0), v(1)},
		{v(1), v(0)},
		{sym(0, v(1)), fun(0)},
		{v(1, v(0), sym(2)), v(0, v(1, v(7)))},
		{{Kind: 9, N: -4, Args: []api.Term{v(-1)}}, sym(1), v(3)},
	}
	for _, x := range upTo([]api.Term{v(0), v(1), fun(0), sym(1), {Kind: -2, N: 1}}, 4) {
		for _, args := range lists {
			want := uncurry(curry(x).subst(args))
			if y, e := Subst(x, args); text(y) != text(want) || e != api.OK {
				t.Fatal(text(x), texts(args), text(y), e)
			}
		}
	}
}

func TestSubstOfVariablesThatHaveNoArg(t *testing.T) {
	for _, n := range append(extremes(), 2, 3) {
		for _, x := range []api.Term{v(n), v(n, v(0)), v(0, v(1), v(n)), sym(0, v(1), fun(0, v(n, v(1))))} {
			if y, e := Subst(x, []api.Term{sym(0), sym(1)}); e != api.ErrArg || text(y) != text(v(0)) {
				t.Error(text(x), text(y), e)
			}
		}
	}
	if y, e := Subst(v(0), nil); e != api.ErrArg || text(y) != text(v(0)) {
		t.Error(e)
	}
}

func TestSubstOfTermsThatAreTooLarge(t *testing.T) {
	for name, x := range largeTerms() {
		for _, args := range [][]api.Term{nil, {sym(0)}, {sym(0), x}} {
			if y, e := Subst(x, args); e != api.ErrLimit || text(y) != text(v(0)) {
				t.Error(name, e)
			}
		}
		for _, y := range []api.Term{sym(0), v(0), v(1), v(2), v(-1)} { // also where it does not occur, and ahead of ErrArg
			if z, e := Subst(y, []api.Term{sym(0), x}); e != api.ErrLimit || text(z) != text(v(0)) {
				t.Error(name, text(y), e)
			}
		}
	}
}

func TestSubstAtTheLimit(t *testing.T) {
	half := wide(api.MaxSize / 2)
	for _, x := range []struct {
		name string
		t    api.Term
		args []api.Term
		want api.Errno
	}{
		{"as large as t", wide(api.MaxSize), []api.Term{half}, api.OK},
		{"as large as an arg", v(0), []api.Term{wide(api.MaxSize)}, api.OK},
		{"as deep as t", tall(api.MaxSize, v(0)), []api.Term{sym(0)}, api.OK},
		{"as deep as an arg", v(0), []api.Term{tall(api.MaxSize, sym(0))}, api.OK},
		{"as deep as both", tall(api.MaxSize/2, v(0)), []api.Term{tall(api.MaxSize/2+1, sym(0))}, api.OK},
		{"an arg in one argument", v(0, v(1)), []api.Term{half, half}, api.OK},
		{"one node more", sym(0, v(0), v(0)), []api.Term{half}, api.ErrLimit},
		{"one node more at a head", v(0, sym(0)), []api.Term{wide(api.MaxSize)}, api.ErrLimit},
		{"one node more below", sym(0, v(0)), []api.Term{wide(api.MaxSize)}, api.ErrLimit},
		{"args that do not occur", sym(0), []api.Term{half, half, half}, api.OK},
		{"multiplied", wideOf(v(0), api.MaxSize), []api.Term{wide(api.MaxSize)}, api.ErrLimit},
		{"multiplied at heads", tallOf(0, api.MaxSize), []api.Term{tall(api.MaxSize, sym(0))}, api.ErrLimit},
		{"many variables, one node each", wideOf(v(0), api.MaxSize), []api.Term{sym(3)}, api.OK},
		{"many variables at heads", tallOf(0, api.MaxSize), []api.Term{sym(3)}, api.OK},
		{"two nodes each", wideOf(v(0), api.MaxSize/2), []api.Term{sym(3, sym(4))}, api.OK},
		{"two nodes each, too many", wideOf(v(0), api.MaxSize/2+1), []api.Term{sym(3, sym(4))}, api.ErrLimit},
		{"a variable without arg is named first", sym(0, v(0), v(0), v(1)), []api.Term{half}, api.ErrArg},
	} {
		y, e := Subst(x.t, x.args)
		if e != x.want || e != api.OK && text(y) != text(v(0)) {
			t.Error(x.name, e)
		}
		if e == api.OK && text(y) != text(uncurry(curry(x.t).subst(x.args))) {
			t.Error(x.name, "differs")
		}
	}
}

// wideOf makes a term with this many nodes, all but the first a term without arguments.
func wideOf(x api.Term, nodes int) api.Term {
	t := sym(0)
	for range nodes - 1 {
		t.Args = append(t.Args, x)
	}
	return t
}

// tallOf makes a term of that depth of one variable that is applied to itself.
func tallOf(n, depth int) api.Term {
	t := v(n)
	for range depth - 1 {
		t = v(n, t)
	}
	return t
}

func TestSubstOfManyArgs(t *testing.T) {
	args := make([]api.Term, 1<<17)
	for i := range args {
		args[i] = sym(i)
	}
	y, e := Subst(sym(0, v(0), v(len(args)-1, v(70000))), args)
	if text(y) != text(sym(0, sym(0), sym(len(args)-1, sym(70000)))) || e != api.OK {
		t.Error(text(y), e)
	}
	args[77] = shared(17, sym(0))
	if _, e := Subst(v(0), args); e != api.ErrLimit {
		t.Error(e)
	}
}

func TestApply(t *testing.T) {
	c := sym(2)
	for _, x := range []struct {
		t    api.Term
		args []api.Term
		want api.Term
	}{
		{v(1), nil, v(1)},
		{v(1, c), []api.Term{}, v(1, c)},
		{v(1), []api.Term{c}, v(1, c)},
		{fun(1, v(0)), []api.Term{v(1, c), v(2)}, fun(1, v(0), v(1, c), v(2))},
		{sym(1, v(0), v(1)), []api.Term{c}, sym(1, v(0), v(1), c)},
		{api.Term{Kind: -1, N: -1}, []api.Term{{Kind: 7, N: -2}}, api.Term{Kind: -1, N: -1, Args: []api.Term{{Kind: 7, N: -2}}}},
		{v(-1), []api.Term{v(-2)}, v(-1, v(-2))},
	} {
		if y, e := Apply(x.t, x.args); text(y) != text(x.want) || e != api.OK {
			t.Error(text(x.t), texts(x.args), text(y), e)
		}
	}
}

func TestApplyAtTheLimit(t *testing.T) {
	half := wide(api.MaxSize / 2)
	for _, x := range []struct {
		name string
		t    api.Term
		args []api.Term
		want api.Errno
	}{
		{"t alone", wide(api.MaxSize), nil, api.OK},
		{"one arg", sym(0), []api.Term{wide(api.MaxSize - 1)}, api.OK},
		{"one arg, too large", sym(0), []api.Term{wide(api.MaxSize)}, api.ErrLimit},
		{"t, and one arg too many", wide(api.MaxSize), []api.Term{sym(0)}, api.ErrLimit},
		{"both", half, []api.Term{half}, api.OK},
		{"both, and one too many", half, []api.Term{half, sym(0)}, api.ErrLimit},
		{"many args", v(0), make([]api.Term, api.MaxSize-1), api.OK},
		{"too many args", v(0), make([]api.Term, api.MaxSize), api.ErrLimit},
		{"far too many args", v(0), make([]api.Term, 1<<21), api.ErrLimit},
		{"deep", tall(api.MaxSize-1, sym(0)), []api.Term{sym(0)}, api.OK},
		{"a deep arg", sym(0), []api.Term{tall(api.MaxSize-1, sym(0))}, api.OK},
	} {
		y, e := Apply(x.t, x.args)
		if e != x.want || e != api.OK && text(y) != text(v(0)) {
			t.Error(x.name, e)
		}
		if e == api.OK && (len(y.Args) != len(x.t.Args)+len(x.args) || texts(y.Args[len(x.t.Args):]) != texts(x.args)) {
			t.Error(x.name, "differs")
		}
	}
	for name, x := range largeTerms() {
		for _, args := range [][]api.Term{nil, {v(0)}, {x}} {
			if y, e := Apply(x, args); e != api.ErrLimit || text(y) != text(v(0)) {
				t.Error(name, e)
			}
		}
		if y, e := Apply(v(0), []api.Term{v(0), x, v(1)}); e != api.ErrLimit || text(y) != text(v(0)) {
			t.Error(name, e)
		}
	}
}

// Rule 3

func TestTermsAreNewMemory(t *testing.T) {
	c := sym(2, sym(3, sym(4)))
	x := v(0, v(1, fun(1, fun(2))), v(0), sym(1, sym(2, c), c))
	args := []api.Term{sym(0, c, c), v(1, c)}
	for name, result := range map[string]func() (api.Term, api.Errno){
		"Subst":                func() (api.Term, api.Errno) { return Subst(x, args) },
		"Subst of nothing":     func() (api.Term, api.Errno) { return Subst(c, nil) },
		"Apply":                func() (api.Term, api.Errno) { return Apply(x, args) },
		"Apply to nothing":     func() (api.Term, api.Errno) { return Apply(x, nil) },
		"Apply without own":    func() (api.Term, api.Errno) { return Apply(sym(0), args) },
		"Subst of a variable":  func() (api.Term, api.Errno) { return Subst(v(0), args) },
		"Subst below":          func() (api.Term, api.Errno) { return Subst(sym(0, v(0), v(0), v(1)), args) },
		"Subst of other kinds": func() (api.Term, api.Errno) { return Subst(api.Term{Kind: 5, Args: []api.Term{c, c}}, args) },
	} {
		before, all := text(x), texts(args)
		y, e := result()
		want := text(y)
		spoil(y)
		if text(x) != before || texts(args) != all || e != api.OK {
			t.Error("a result shares memory with an argument:", name, e)
		}
		if y, _ = result(); text(y) != want {
			t.Error("a result is kept:", name)
		}
		if !disjoint(y) {
			t.Error("a result shares memory with itself:", name)
		}
	}
}

// Room behind an argument's elements belongs to the caller.
func TestRoomBehindArgumentsIsLeft(t *testing.T) {
	room := []api.Term{sym(1), sym(2), sym(3)}
	own := api.Term{Kind: api.KSym, Args: room[:1]}
	Apply(own, []api.Term{sym(9)})
	Subst(v(0, sym(8)), []api.Term{own})
	Subst(api.Term{Args: room[:1]}, []api.Term{own})
	if texts(room) != texts([]api.Term{sym(1), sym(2), sym(3)}) {
		t.Error(texts(room))
	}
}

// P2.5

func TestSortsStay(t *testing.T) {
	o, f := to(), to(to())
	syms := []api.Symbol{{Name: "a", Rank: 2}, {Name: "c"}}
	funs := []api.Sort{to(f, o)}
	p := Place{Syms: syms, Funs: funs, Params: []api.Sort{f, o, to(f, o)}}
	other := Place{Syms: syms, Funs: funs, Params: []api.Sort{o, to(o, f, o)}}
	args := map[string][]api.Term{}
	for _, x := range upTo([]api.Term{v(0), v(1), fun(0), sym(0), sym(1)}, 4) {
		if s, e := Sort(other, x); e == api.OK {
			args[sortText(s)] = append(args[sortText(s)], x)
		}
	}
	met := 0
	for i, x := range upTo([]api.Term{v(0), v(1), v(2), fun(0), sym(0), sym(1)}, 4) {
		s, e := Sort(p, x)
		if e != api.OK {
			continue
		}
		for k := range 10 {
			var list []api.Term
			for j, q := range p.Params {
				all := args[sortText(q)]
				list = append(list, all[(i*7+k*(j+3))%len(all)])
			}
			y, e := Subst(x, list)
			if r, e2 := Sort(other, y); e != api.OK || e2 != api.OK || sortText(r) != sortText(s) {
				t.Fatal(text(x), texts(list), text(y), e, e2)
			}
			met++
		}
	}
	if met < 1000 {
		t.Error("few terms have sorts:", met)
	}
}

// P2.6

func TestOneAfterTheOther(t *testing.T) {
	small := upTo([]api.Term{v(0), v(1), sym(0), fun(1)}, 3)
	for i, x := range upTo([]api.Term{v(0), v(1), sym(0), fun(0)}, 4) {
		for k := range 20 {
			args := []api.Term{small[(i+k)%len(small)], small[(i*3+k*5)%len(small)]}
			others := []api.Term{small[(i*5+k*7)%len(small)], small[(i*2+k*11)%len(small)]}
			one, e1 := Subst(x, args)
			left, e2 := Subst(one, others)
			first, e3 := Subst(args[0], others)
			second, e4 := Subst(args[1], others)
			right, e5 := Subst(x, []api.Term{first, second})
			if e1+e2+e3+e4+e5 != api.OK || !Same(left, right) {
				t.Fatal(text(x), texts(args), texts(others), text(left), text(right))
			}
		}
	}
}

func TestSubstOfVariablesChangesNothing(t *testing.T) {
	for _, x := range append(upTo([]api.Term{v(0), v(2), sym(0), fun(1)}, 5), wide(api.MaxSize), tallOf(2, api.MaxSize)) {
		if y, e := Subst(x, []api.Term{v(0), v(1), v(2)}); e != api.OK || !Same(x, y) {
			t.Fatal(text(x), text(y), e)
		}
	}
}

// P2.7

func TestNodesOfSubst(t *testing.T) {
	args := []api.Term{sym(0, v(1), v(0, v(0))), v(1), wide(50)}
	for _, x := range upTo([]api.Term{v(0), v(1), v(2), sym(2)}, 5) {
		y, e := Subst(x, args)
		if n, _ := Size(y); e != api.OK || n != grown(x, args) {
			t.Fatal(text(x), n, e)
		}
	}
}

// grown is the nodes of t, plus, for each variable that occurs, those of its arg minus 1.
func grown(t api.Term, args []api.Term) int {
	n := 1
	if t.Kind == api.KVar {
		nodes, _ := Size(args[t.N])
		n += nodes - 1
	}
	for _, x := range t.Args {
		n += grown(x, args)
	}
	return n
}

// The chapter's example.

func TestExample(t *testing.T) {
	o := to()
	p := Place{Syms: []api.Symbol{{Name: "a", Rank: 2}, {Name: "c"}}, Params: []api.Sort{to(o), o}}
	x := v(0, v(0, v(1)))
	if s, e := Sort(p, x); e != api.OK || len(s.Args) != 0 {
		t.Error(sortText(s), e)
	}
	c := sym(1)
	y, e := Subst(x, []api.Term{sym(0, c), c})
	if n, d := Size(y); e != api.OK || !Same(y, sym(0, c, sym(0, c, c))) || n != 5 || d != 3 {
		t.Error(text(y), e, n, d)
	}
	if s, e := Sort(Place{Syms: p.Syms}, y); e != api.OK || len(s.Args) != 0 {
		t.Error(sortText(s), e)
	}
}
