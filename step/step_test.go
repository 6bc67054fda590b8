package step

import (
	"slices"
	"strconv"
	"testing"

	"virgation/api"
	"virgation/sample"
	"virgation/term"
)

// P5.1

// rightTerms are closed terms of the sort o over lots.
func rightTerms() map[string]api.Term {
	return map[string]api.Term{
		"the start":             fun(0),
		"a symbol":              c(),
		"symbols":               a(b(c()), c()),
		"functions in symbols":  a(fun(0), b(fun(id, c()))),
		"a function of o":       fun(id, fun(id, fun(0))),
		"symbols as arguments":  fun(swap, a(), c(), fun(0)),
		"parts of functions":    fun(twice, fun(left, c()), c()),
		"parts of symbols":      fun(twice, a(c()), c()),
		"parts of the order 2":  fun(call, fun(give, c())),
		"functions as such":     fun(swap, fun(left), c(), c()),
		"as large as there are": bush(api.MaxSize),
		"as deep as there are":  tall(api.MaxSize),
		"a large argument":      fun(id, bush(api.MaxSize-1)),
	}
}

func TestCheck(t *testing.T) {
	s := get(t, lots)
	for name, x := range rightTerms() {
		if e := Check(s, x); e != api.OK {
			t.Error(name, e)
		}
	}
}

// wrongTerms have few nodes, but are no closed terms of the sort o over lots.
func wrongTerms() map[string]api.Term {
	list := map[string]api.Term{
		"a variable":              v(0),
		"a variable inside":       b(v(0)),
		"a variable as head":      v(0, c()),
		"a variable in a call":    fun(id, v(0)),
		"a symbol of o > o":       b(),
		"a symbol of o > o > o":   a(),
		"a part of a symbol":      a(c()),
		"a function of o > o":     fun(id),
		"a part of a function":    fun(twice, b()),
		"of order 2":              fun(call),
		"arguments of a tree":     {Kind: api.KSym, N: 2, Args: []api.Term{c()}},
		"arguments of the start":  fun(0, c()),
		"too many arguments":      fun(id, c(), c()),
		"too many of a symbol":    b(c(), c()),
		"a tree for a function":   fun(twice, c(), c()),
		"a function for a tree":   fun(id, b()),
		"a function in a symbol":  a(c(), fun(id)),
		"another function":        fun(twice, a(), c()),
		"of another order":        fun(call, b()),
		"function 9 of 9":         fun(9),
		"symbol 3 of 3":           {Kind: api.KSym, N: 3},
		"another kind":            {Kind: 3},
		"inside, of another kind": b(b(api.Term{Kind: 3})),
	}
	for _, n := range extremes() {
		name := strconv.Itoa(n)
		list["variable "+name] = v(n)
		list["function "+name] = fun(n)
		list["symbol "+name] = api.Term{Kind: api.KSym, N: n}
		list["kind "+name] = api.Term{Kind: n}
		list["in a call "+name] = fun(id, api.Term{Kind: api.KSym, N: n})
	}
	return list
}

func TestCheckOfTermsWithoutThatSort(t *testing.T) {
	s := get(t, lots)
	for name, x := range wrongTerms() {
		if e := Check(s, x); e != api.ErrSort {
			t.Error(name, e)
		}
		fail(t, name, s, x, 10, api.ErrSort)
		fail(t, name, s, x, -1, api.ErrSort)
	}
}

// largeTerms have too many nodes, and some of them no sort.
func largeTerms() map[string]api.Term {
	return map[string]api.Term{
		"one node too many":       bush(api.MaxSize + 1),
		"one node too many, tall": tall(api.MaxSize + 1),
		"in an argument":          fun(id, bush(api.MaxSize)),
		"without a sort":          v(0, bush(api.MaxSize)),
		"of an unknown kind":      {Kind: -1, N: 9, Args: []api.Term{bush(api.MaxSize)}},
		"nodes without end":       shared(1000),
		"wide":                    b(make([]api.Term, 2*api.MaxSize)...),
	}
}

func TestCheckOfTermsThatAreTooLarge(t *testing.T) {
	s := get(t, lots)
	for name, x := range largeTerms() {
		if e := Check(s, x); e != api.ErrLimit {
			t.Error(name, e)
		}
		fail(t, name, s, x, 10, api.ErrLimit)
		fail(t, name, s, x, -1, api.ErrLimit)
	}
}

func TestCheckOfSchemesThatAreNone(t *testing.T) {
	right := get(t, lots)
	for name, s := range map[string]api.Scheme{
		"nothing":         {},
		"no functions":    {Syms: right.Syms},
		"no symbols":      {Funs: right.Funs},
		"a symbol twice":  {Syms: append(slices.Clone(right.Syms), right.Syms[0]), Funs: right.Funs},
		"a start of args": {Syms: right.Syms, Funs: right.Funs[1:]},
		"an open start":   {Syms: right.Syms, Funs: []api.Fun{{Name: "s", Body: v(0)}}},
		"no such call":    {Syms: right.Syms, Funs: []api.Fun{{Name: "s", Body: fun(1)}}},
		"a large body":    {Syms: right.Syms, Funs: []api.Fun{{Name: "s", Body: bush(api.MaxBody + 1)}}},
	} {
		for _, x := range []api.Term{fun(0), c(), v(0), shared(1000)} {
			if e := Check(s, x); e != api.ErrScheme {
				t.Error(name, e)
			}
			fail(t, name, s, x, 10, api.ErrScheme)
			fail(t, name, s, x, -1, api.ErrScheme)
		}
	}
}

// P5.2

func TestStep(t *testing.T) {
	s := get(t, lots)
	for _, x := range []struct {
		t, want api.Term
	}{
		{fun(0), fun(0)},
		{fun(id, c()), c()},
		{fun(id, fun(id, c())), fun(id, c())},
		{fun(id, a(c(), fun(0))), a(c(), fun(0))},
		{fun(left, fun(0), c()), fun(0)},
		{fun(swap, a(), b(c()), c()), a(c(), b(c()))},
		{fun(swap, fun(left), fun(0), c()), fun(left, c(), fun(0))},
		{fun(twice, b(), c()), b(b(c()))},
		{fun(twice, a(fun(0)), c()), a(fun(0), a(fun(0), c()))},
		{fun(twice, fun(left, c()), fun(0)), fun(left, c(), fun(left, c(), fun(0)))},
		{fun(twice, fun(twice, b()), c()), fun(twice, b(), fun(twice, b(), c()))},
		{fun(call, fun(give, c())), fun(give, c(), b())},
		{fun(give, c(), fun(twice, b())), fun(twice, b(), c())},
		{fun(two, fun(0)), a(fun(0), fun(0))},
		{fun(off, bush(1000)), c()},
	} {
		if y, moved, e := Step(s, x.t); text(y) != text(x.want) || !moved || e != api.OK {
			t.Error(text(x.t), text(y), moved, e)
		}
	}
}

func TestStepOfTermsThatAreDone(t *testing.T) {
	s := get(t, lots)
	for name, x := range map[string]api.Term{
		"without arguments": c(),
		"with arguments":    a(fun(0), b(fun(id, c()))),
		"large":             bush(api.MaxSize),
		"tall":              tall(api.MaxSize),
	} {
		if y, moved, e := Step(s, x); text(y) != text(x) || moved || e != api.OK {
			t.Error(name, moved, e)
		}
		if y, n, e := Run(s, x, 0); text(y) != text(x) || n != 0 || e != api.OK {
			t.Error(name, n, e)
		}
		if l, e := Heads(s, x, 0); len(l) != 0 || e != api.OK {
			t.Error(name, l, e)
		}
	}
}

func TestStepAtTheLimit(t *testing.T) {
	s := get(t, abc+"fun s : o = s\n"+
		"fun id : o > o = $0\n"+
		"fun more : o > o > o = #b (#a $0 $1)\n"+
		"fun on : (o > o) > o > o = $0 $1\n"+
		"fun twice : (o > o) > o = $0 ($0 #c)\n"+
		"fun loop : o > o = loop (#a $0 $0)\n")
	const half = api.MaxSize / 2
	for _, x := range []struct {
		name  string
		t     api.Term
		nodes int // behind the step
	}{
		{"as large as before", fun(1, bush(api.MaxSize-1)), api.MaxSize - 1},
		{"one node more", fun(2, bush(half), bush(half-2)), api.MaxSize},
		{"one node too many", fun(2, bush(half), bush(half-1)), api.MaxSize + 1},
		{"tall", fun(2, tall(api.MaxSize-3), c()), api.MaxSize},
		{"too tall", fun(2, tall(api.MaxSize-2), c()), api.MaxSize + 1},
		{"applied", fun(3, b(), tall(api.MaxSize-2)), api.MaxSize - 1},
		{"heads with arguments", fun(4, a(bush(half-3))), 2*(half-2) + 1},
		{"too large twice", fun(4, a(bush(half-1))), 2*half + 1},
		{"not done", fun(5, bush(half-1)), api.MaxSize},
		{"not done, too large", fun(5, bush(half)), api.MaxSize + 2},
	} {
		y, moved, e := Step(s, x.t)
		if x.nodes > api.MaxSize {
			if !isZero(y) || moved || e != api.ErrLimit {
				t.Error(x.name, moved, e)
			}
			continue
		}
		if n, _ := term.Size(y); n != x.nodes || !moved || e != api.OK {
			t.Error(x.name, n, moved, e)
		}
	}
}

// P5.3

func TestRunAndHeads(t *testing.T) {
	s := get(t, lots)
	for _, x := range []struct {
		t, want api.Term
		heads   []int
	}{
		{c(), c(), nil},
		{a(fun(0), fun(id, c())), a(fun(0), fun(id, c())), nil},
		{fun(id, c()), c(), []int{id}},
		{fun(id, fun(id, fun(off, fun(0)))), c(), []int{id, id, off}},
		{fun(left, b(fun(0)), fun(0)), b(fun(0)), []int{left}},
		{fun(swap, fun(left), fun(0), fun(two, c())), a(c(), c()), []int{swap, left, two}},
		{fun(call, fun(give, fun(off, c()))), b(fun(off, c())), []int{call, give}},
		{fun(twice, fun(twice, fun(id)), b(c())), b(c()), []int{twice, twice, id, id, twice, id, id}},
	} {
		n := len(x.heads)
		for _, fuel := range []int{n, n + 1, n + 100, api.MaxSteps} {
			if y, k, e := Run(s, x.t, fuel); text(y) != text(x.want) || k != n || e != api.OK {
				t.Error(text(x.t), fuel, text(y), k, e)
			}
			if l, e := Heads(s, x.t, fuel); !slices.Equal(l, x.heads) || e != api.OK {
				t.Error(text(x.t), fuel, l, e)
			}
		}
		for fuel := range n {
			failRun(t, text(x.t), s, x.t, fuel, api.ErrFuel)
			if l, e := Heads(s, x.t, fuel); !slices.Equal(l, x.heads[:fuel]) || e != api.ErrFuel {
				t.Error(text(x.t), fuel, l, e)
			}
		}
	}
}

func TestHeadsThatCollectArguments(t *testing.T) {
	s := get(t, abc+"symbol d 4\n"+
		"fun s : o = p1 #d\n"+
		"fun p1 : (o > o > o > o > o) > o = p2 ($0 #c)\n"+
		"fun p2 : (o > o > o > o) > o = p3 ($0 #c)\n"+
		"fun p3 : (o > o > o) > o = p4 ($0 #c)\n"+
		"fun p4 : (o > o) > o = #a ($0 #c) ($0 (#b #c))\n")
	const want = "#0(#3(#2)(#2)(#2)(#2))(#3(#2)(#2)(#2)(#1(#2)))"
	if y, n, e := Run(s, fun(0), 5); text(y) != want || n != 5 || e != api.OK {
		t.Error(text(y), n, e)
	}
}

func TestFuelOutsideItsLimits(t *testing.T) {
	s := get(t, lots)
	for _, fuel := range append(extremes(), api.MaxSteps+1) {
		for _, x := range []api.Term{c(), fun(0), fun(id, c()), fun(two, bush(api.MaxSize/2+1))} {
			fail(t, strconv.Itoa(fuel), s, x, fuel, api.ErrArg)
		}
	}
}

// grows has functions whose terms become too large.
const grows = abc +
	"fun s : o = f #c\n" +
	"fun f : o > o = f (#a $0 $0)\n" + // after n steps 2^(n + 1) nodes
	"fun first : o > o > o = $0\n" +
	"fun waste : o > o = first #c (#a $0 $0)\n" +
	"fun two : o > o = #a $0 $0\n" +
	"fun three : o > o = two (#a $0 $0)\n"

func TestRunOfTermsThatBecomeTooLarge(t *testing.T) {
	s := get(t, grows)
	for _, x := range []struct {
		name  string
		t     api.Term
		steps int // to a term that is too large
	}{
		{"from the start", fun(0), 17}, // 2^16 nodes after 16 steps, 1 of which is that of the start
		{"at once", fun(1, bush(api.MaxSize/2)), 1},
		{"smaller again", fun(3, bush(api.MaxSize/2)), 1},
		{"at the end", fun(4, bush(api.MaxSize/2)), 1},
		{"at the end, later", fun(5, bush(api.MaxSize/4)), 2},
	} {
		for _, fuel := range []int{x.steps, x.steps + 1, 1000, api.MaxSteps} {
			failRun(t, x.name, s, x.t, fuel, api.ErrLimit)
			if l, e := Heads(s, x.t, fuel); len(l) != 0 || e != api.ErrLimit {
				t.Error(x.name, fuel, l, e)
			}
		}
		for fuel := range x.steps {
			failRun(t, x.name, s, x.t, fuel, api.ErrFuel)
			if l, e := Heads(s, x.t, fuel); len(l) != fuel || e != api.ErrFuel {
				t.Error(x.name, fuel, l, e)
			}
		}
	}
	for name, x := range map[string]api.Term{
		"small on the way": fun(3, bush(api.MaxSize/2-2)),
		"small at the end": fun(4, bush(api.MaxSize/2-1)),
	} {
		if y, _, e := Run(s, x, 2); isZero(y) || e != api.OK {
			t.Error(name, e)
		}
	}
}

func TestAsManyStepsAsThereAre(t *testing.T) {
	inner := "i"
	for range 18 {
		inner = "(d " + inner + ")"
	}
	s := get(t, "symbol c 0\nfun s : o = d "+inner+" #c\nfun d : (o > o) > o > o = $0 ($0 $1)\nfun i : o > o = $0\n")
	// One step for s; d, applied 19 times to i, is 2^19 times i, and needs 2^19 - 1 steps to become that.
	y, n, e := Run(s, fun(0), api.MaxSteps)
	if text(y) != "#0" || n != api.MaxSteps || e != api.OK {
		t.Error(text(y), n, e)
	}
	failRun(t, "one step less", s, fun(0), api.MaxSteps-1, api.ErrFuel)
	l, e := Heads(s, fun(0), api.MaxSteps)
	if len(l) != api.MaxSteps || l[0] != 0 || l[1] != 1 || l[api.MaxSteps-1] != 2 || e != api.OK {
		t.Error(len(l), e)
	}
}

func TestManyStepsOfLargeTermsTakeLittleTime(t *testing.T) {
	s := get(t, abc+"fun s : o = s\n"+
		"fun f : o > o = f $0\n"+
		"fun g : o > o > o = g $1 $0\n"+
		"fun k : o > o = k #c\n"+
		"fun n : o > o = n (#b $0)\n")
	s.Funs[3].Body = fun(3, bush(api.MaxBody-1))
	for name, x := range map[string]api.Term{
		"no arguments": fun(0),
		"large":        fun(1, bush(api.MaxSize-1)),
		"tall":         fun(1, tall(api.MaxSize-1)),
		"two":          fun(2, bush(api.MaxSize/2), tall(api.MaxSize/2-1)),
		"a large body": fun(3, c()),
	} {
		failRun(t, name, s, x, api.MaxSteps, api.ErrFuel)
		if l, e := Heads(s, x, api.MaxSteps); len(l) != api.MaxSteps || e != api.ErrFuel {
			t.Error(name, len(l), e)
		}
	}
	failRun(t, "one node more in each step", s, fun(4, c()), api.MaxSteps, api.ErrLimit)
	failRun(t, "as many nodes as there may be", s, fun(4, c()), api.MaxSize-2, api.ErrFuel)
}

// P5.2 to P5.5: of some schemes, what is found from the start and from all arguments of what is done.

// closed calls do for closed terms of the sort o of s.
func closed(s api.Scheme, depth int, do func(api.Term)) {
	below(s, fun(0), depth, do)
}

func below(s api.Scheme, x api.Term, depth int, do func(api.Term)) {
	do(x)
	y, _, e := Run(s, x, 50)
	if e != api.OK || depth == 0 {
		return
	}
	do(y)
	for _, z := range y.Args {
		below(s, z, depth-1, do)
	}
}

// way makes at most most steps by the words of the document, and returns the terms on the way, from x on, the functions
// that are replaced, and the error with which the way ends.
func way(s api.Scheme, x api.Term, most int) (terms []api.Term, heads []int, e api.Errno) {
	terms = append(terms, x)
	for x.Kind != api.KSym {
		if len(heads) == most {
			return terms, heads, api.ErrFuel
		}
		next, e := term.Subst(s.Funs[x.N].Body, x.Args)
		if e != api.OK {
			return terms, heads, e
		}
		heads = append(heads, x.N)
		terms = append(terms, next)
		x = next
	}
	return terms, heads, api.OK
}

func TestStepsLeadFromClosedTermsToSuch(t *testing.T) {
	for _, s := range sample.Schemes(300) {
		closed(s, 2, func(x api.Term) {
			terms, _, e := way(s, x, 10)
			for i, y := range terms {
				if e := Check(s, y); e != api.OK {
					t.Fatal(put(s), text(y), e)
				}
				if i > 0 {
					if z, moved, e := Step(s, terms[i-1]); text(z) != text(y) || !moved || e != api.OK {
						t.Fatal(put(s), text(terms[i-1]), text(z), moved, e)
					}
				}
			}
			last := terms[len(terms)-1]
			if e == api.OK {
				if z, moved, e := Step(s, last); text(z) != text(last) || moved || e != api.OK {
					t.Fatal(put(s), text(last), text(z), moved, e)
				}
			}
		})
	}
}

func TestRunIsStepRepeated(t *testing.T) {
	const fuel = 20
	ends := map[api.Errno]int{}
	for _, s := range sample.Schemes(300) {
		closed(s, 2, func(x api.Term) {
			terms, heads, want := way(s, x, fuel)
			ends[want]++
			if want != api.OK {
				failRun(t, put(s), s, x, fuel, want)
			}
			if want == api.ErrLimit {
				heads = nil
			}
			if l, e := Heads(s, x, fuel); !slices.Equal(l, heads) || e != want {
				t.Fatal(put(s), text(x), l, e)
			}
			if want != api.OK {
				return
			}
			steps := len(heads)
			last := text(terms[steps])
			for k, y := range terms { // with more fuel than is needed, and with as much
				for _, fuel := range []int{2 * fuel, steps - k} {
					if z, n, e := Run(s, y, fuel); text(z) != last || n != steps-k || e != api.OK {
						t.Fatal(put(s), text(y), text(z), n, e)
					}
				}
			}
		})
	}
	if ends[api.OK] < 200 || ends[api.ErrFuel] < 50 || ends[api.ErrLimit] == 0 {
		t.Error(ends)
	}
}

// Rule 3

// runs are terms of lots and all sorts of ends.
func runs() []api.Term {
	x := bush(9)
	return []api.Term{
		fun(0), c(), a(x, fun(id, x)), fun(id, x), fun(id, fun(two, x)), fun(two, fun(id, x)), fun(two, a(x, x)),
		fun(swap, a(), x, x), fun(swap, fun(left), fun(two, x), x), fun(twice, a(fun(two, x)), x),
		fun(twice, fun(twice, fun(left, x)), x), fun(call, fun(give, x)), fun(two, bush(api.MaxSize/2)), v(0),
	}
}

func TestArgumentsAreLeftAsTheyAre(t *testing.T) {
	for _, x := range runs() {
		s, before := get(t, lots), text(x)
		Check(s, x)
		Step(s, x)
		Run(s, x, 10)
		Heads(s, x, 10)
		if text(x) != before || put(s) != put(get(t, lots)) {
			t.Error(before, text(x), put(s))
		}
	}
}

func TestResultsAreNewMemory(t *testing.T) {
	for _, x := range runs() {
		s, before := get(t, lots), text(x)
		for _, result := range []func() api.Term{
			func() api.Term { y, _, _ := Step(s, x); return y },
			func() api.Term { y, _, _ := Run(s, x, 10); return y },
		} {
			y := result()
			first := text(y)
			if !disjoint(y) {
				t.Error(before, first)
			}
			spoil(y)
			if text(x) != before || put(s) != put(get(t, lots)) || text(result()) != first {
				t.Error(before, text(x), put(s))
			}
		}
		l, _ := Heads(s, x, 10)
		first := slices.Clone(l)
		clear(l)
		if l, _ := Heads(s, x, 10); !slices.Equal(l, first) || put(s) != put(get(t, lots)) {
			t.Error(before, first, l)
		}
	}
}

func TestNilAndEmptySlicesAreEquivalent(t *testing.T) {
	s := get(t, "symbol c 0\nfun s : o = #c\n")
	s.Funs[0].Sort.Args = []api.Sort{}
	s.Funs[0].Body.Args = []api.Term{}
	start := api.Term{Kind: api.KFun, Args: []api.Term{}}
	if y, n, e := Run(s, start, 1); text(y) != "#0" || n != 1 || e != api.OK {
		t.Error(text(y), n, e)
	}
}

// The chapter's example

func TestExample(t *testing.T) {
	s := get(t, sums)
	y, moved, e := Step(s, fun(0))
	if text(y) != "f1(#2)" || !moved || e != api.OK {
		t.Error(text(y), moved, e)
	}
	y, n, e := Run(s, fun(0), 2)
	if text(y) != "#0(#2)(f1(#1(#2)))" || n != 2 || e != api.OK {
		t.Error(text(y), n, e)
	}
	if l, e := Heads(s, fun(0), 2); !slices.Equal(l, []int{0, 1}) || e != api.OK {
		t.Error(l, e)
	}
}
