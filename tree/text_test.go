package tree

import (
	"strings"
	"testing"

	"virgation/api"
)

// P6.4, P6.7

func TestPutAndGet(t *testing.T) {
	for _, x := range []struct {
		t    api.Tree
		text string
	}{
		{u(), "_"},
		{c(), "c"},
		{api.Tree{Sym: 2, Kids: []api.Tree{}}, "c"},
		{b(u()), "b(_)"},
		{b(b(c())), "b(b(c))"},
		{a(u(), u()), "a(_,_)"},
		{a(c(), a(b(u()), a(u(), u()))), "a(c,a(b(_),a(_,_)))"},
		{q(a(c(), u()), b(c()), u(), q(c(), c(), c(), c())), "q(a(c,_),b(c),_,q(c,c,c,c))"},
	} {
		if s, e := Put(abc(), x.t); s != x.text || e != api.OK {
			t.Error(x.text, s, e)
		}
		if y, e := Get(abc(), x.text); !Same(y, x.t) || e != api.OK {
			t.Error(x.text, text(y), e)
		}
	}
}

func TestNamesInTexts(t *testing.T) {
	long := "x" + strings.Repeat("_", 23)
	syms := []api.Symbol{{Name: "a", Rank: 1}, {Name: "a_", Rank: 1}, {Name: "a__", Rank: 2}, {Name: "o0"}, {Name: long}}
	for want, x := range map[string]api.Tree{
		"a(_)":                  {Sym: 0, Kids: []api.Tree{u()}},
		"a_(a(_))":              {Sym: 1, Kids: []api.Tree{{Sym: 0, Kids: []api.Tree{u()}}}},
		"a__(_,o0)":             {Sym: 2, Kids: []api.Tree{u(), {Sym: 3}}},
		"a__(" + long + ",_)":   {Sym: 2, Kids: []api.Tree{{Sym: 4}, u()}},
		"a_(a(" + long + "))":   {Sym: 1, Kids: []api.Tree{{Sym: 0, Kids: []api.Tree{{Sym: 4}}}}},
		"a__(a_(_),a__(o0,o0))": {Sym: 2, Kids: []api.Tree{{Sym: 1, Kids: []api.Tree{u()}}, {Sym: 2, Kids: []api.Tree{{Sym: 3}, {Sym: 3}}}}},
	} {
		if s, e := Put(syms, x); s != want || e != api.OK {
			t.Error(want, s, e)
		}
		if y, e := Get(syms, want); !Same(y, x) || e != api.OK {
			t.Error(want, text(y), e)
		}
	}
	for _, s := range []string{"a_", "a__(_)", "a", "__", "_a(_)", "a___(_)", long + "_", long[:23], "o", "o00", "o0(_)", "o0()"} {
		if y, e := Get(syms, s); e != api.ErrForm || !isZero(y) {
			t.Error(s, text(y), e)
		}
	}
}

func TestGetOfPutOfAllSmallTrees(t *testing.T) {
	met := map[string]bool{}
	for _, x := range upTo(7) {
		s, e := Put(abc(), x)
		if e != api.OK || met[s] {
			t.Error(text(x), s, e)
		}
		met[s] = true
		if y, e := Get(abc(), s); !Same(x, y) || e != api.OK {
			t.Error(s, text(y), e)
		}
	}
	for name, x := range edgeTrees() {
		s, e := Put(abc(), x)
		y, f := Get(abc(), s)
		if !Same(x, y) || e != api.OK || f != api.OK {
			t.Error(name, e, f)
		}
	}
}

func TestGetOfChangedTexts(t *testing.T) {
	right := map[string]api.Tree{}
	for _, x := range upTo(7) { // a change adds no more than one node
		s, _ := Put(abc(), x)
		right[s] = x
	}
	for _, x := range upTo(5) {
		s, _ := Put(abc(), x)
		for _, changed := range changes(s) {
			want, is := right[changed]
			y, e := Get(abc(), changed)
			if is && (!Same(y, want) || e != api.OK) || !is && (e != api.ErrForm || !isZero(y)) {
				t.Error(changed, text(y), e)
			}
		}
	}
}

// changes are all texts that differ from s by one byte more, less or changed.
func changes(s string) []string {
	var list []string
	for i := range len(s) + 1 {
		for _, x := range []byte("abcqd_(), \n0A\x00\xff") {
			list = append(list, s[:i]+string([]byte{x})+s[i:])
			if i < len(s) {
				list = append(list, s[:i]+string([]byte{x})+s[i+1:])
			}
		}
		if i < len(s) {
			list = append(list, s[:i]+s[i+1:], s[:i])
		}
	}
	return list
}

func TestGetOfWrongTexts(t *testing.T) {
	for _, s := range []string{
		"", " ", "(", ")", ",", "()", "(c)", "(_)", "a", "b", "q", "a()", "b()", "c()", "c(c)", "c(_)", "_()", "_(c)", "_c", "c_", "__",
		"a(c)", "a(c,)", "a(,c)", "a(c,c", "a(c c)", "a(c, c)", "a (c,c)", "a(c,c) ", " a(c,c)", "a(c,c))", "a(c,c,c)", "a(c;c)", "a(c)c)",
		"b(c", "b c", "b(c,c)", "b(c)b(c)", "b((c))", "b[c]", "q(c,c,c)", "q(c,c,c,c,c)", "q(c,c,c,c", "d", "d(c)", "b(d)", "A", "b(C)", "b(c)\n",
		"-1", "2", "c,c", "#c", "b#c", "b(é)", "b(\xff)", "b(c)\x00", "ab", "bb(c)", "cc",
	} {
		if y, e := Get(abc(), s); e != api.ErrForm || !isZero(y) {
			t.Error(s, text(y), e)
		}
	}
	if y, e := Get(nil, "_"); !Same(y, u()) || e != api.OK {
		t.Error(text(y), e)
	}
	if y, e := Get(nil, "c"); e != api.ErrForm || !isZero(y) {
		t.Error(text(y), e)
	}
}

func TestErrorsOfTextsComeInOrder(t *testing.T) {
	tooLong := strings.Repeat("x", api.MaxText+1)
	for _, syms := range badSymbols() {
		for _, s := range []string{"c", "_", "wrong(", tooLong} {
			if y, e := Get(syms, s); e != api.ErrArg || !isZero(y) {
				t.Error(len(syms), e)
			}
		}
		for _, x := range []api.Tree{c(), u(), {Sym: -2}, shared(1000)} {
			if s, e := Put(syms, x); e != api.ErrArg || s != "" {
				t.Error(len(syms), s, e)
			}
		}
	}
	for name, x := range badTrees() {
		if s, e := Put(abc(), x); e != api.ErrTree || s != "" {
			t.Error(name, e)
		}
	}
	if s, e := Put(nil, c()); e != api.ErrTree || s != "" {
		t.Error(s, e)
	}
	if s, e := Put(nil, u()); s != "_" || e != api.OK {
		t.Error(s, e)
	}
	for _, s := range []string{tooLong, spelt(abc(), tall(25000, c())), spelt(abc(), bush(20001, u())) + strings.Repeat(")", api.MaxText)} {
		if y, e := Get(abc(), s); e != api.ErrLimit || !isZero(y) {
			t.Error(len(s), e)
		}
	}
	for name, x := range map[string]string{
		"not too long":             tooLong[1:],
		"form goes ahead of depth": spelt(abc(), tall(201, c())) + ")",
		"form, far in":             spelt(abc(), tall(1000, api.Tree{Sym: 1})),
		"form goes ahead of nodes": strings.TrimSuffix(spelt(abc(), bush(20001, c())), ")"),
	} {
		if y, e := Get(abc(), x); e != api.ErrForm || !isZero(y) {
			t.Error(name, e)
		}
	}
}

// spelt is the string of a tree over symbols, of any size and with any kids.
func spelt(syms []api.Symbol, t api.Tree) string {
	if t.Sym == -1 {
		return "_"
	}
	var kids []string
	for _, x := range t.Kids {
		kids = append(kids, spelt(syms, x))
	}
	if len(kids) == 0 {
		return syms[t.Sym].Name
	}
	return syms[t.Sym].Name + "(" + strings.Join(kids, ",") + ")"
}

func TestGetOfTreesThatAreTooLarge(t *testing.T) {
	for name, x := range map[string]api.Tree{
		"depth 201":             tall(201, c()),
		"depth 201, unknown":    tall(201, u()),
		"depth 201, the last":   a(c(), tall(200, c())),
		"depth as a text holds": tall(21845, c()),
		"20001 nodes":           bush(20001, c()),
		"20001 nodes, unknown":  bush(20001, u()),
		"21845 nodes":           full(8),
	} {
		s := spelt(abc(), x)
		if len(s) > api.MaxText {
			t.Fatal(name, len(s))
		}
		if y, e := Get(abc(), s); e != api.ErrTree || !isZero(y) {
			t.Error(name, e)
		}
	}
}

// full makes a tree with that many levels all of which are full.
func full(levels int) api.Tree {
	if levels == 1 {
		return u()
	}
	x := full(levels - 1)
	return q(x, x, x, x)
}

func TestTextsAtTheLimit(t *testing.T) {
	for _, size := range []int{api.MaxText - 1, api.MaxText, api.MaxText + 1, api.MaxText + 100} {
		syms, x := ofSize(size)
		want := spelt(syms, x)
		if len(want) != size || Check([]int{2, 1, 0, 1}, x) != api.OK {
			t.Fatal(size, len(want))
		}
		s, e := Put(syms, x)
		y, f := Get(syms, want)
		if size <= api.MaxText && (s != want || e != api.OK || !Same(x, y) || f != api.OK) {
			t.Error(size, len(s), e, f)
		}
		if size > api.MaxText && (s != "" || e != api.ErrLimit || !isZero(y) || f != api.ErrLimit) {
			t.Error(size, len(s), e, f)
		}
	}
}

// ofSize makes symbols and a valid tree over them whose string has size bytes, which is some 64K.
func ofSize(size int) ([]api.Symbol, api.Tree) {
	syms := []api.Symbol{{Name: "aaaaa", Rank: 2}, {Name: "b", Rank: 1}, {Name: strings.Repeat("c", api.MaxName)}, {Name: "d", Rank: 1}}
	t := api.Tree{Sym: 3, Kids: []api.Tree{shared(12)}}
	left := size - len(spelt(syms, t))
	for ; left >= 3; left -= 3 { // each b has brackets
		t = b(t)
	}
	syms[3].Name += strings.Repeat("d", left)
	return syms, t
}

func TestGetSharesNoMemory(t *testing.T) {
	syms := abc()
	x, e := Get(syms, "q(a(c,_),a(c,_),b(c),_)")
	if e != api.OK || !disjoint(x) {
		t.Error(e)
	}
	spoil(x)
	if y, e := Get(syms, "q(a(c,_),a(c,_),b(c),_)"); !Same(y, q(a(c(), u()), a(c(), u()), b(c()), u())) || e != api.OK {
		t.Error(text(y), e)
	}
	for i, s := range syms {
		if s != abc()[i] {
			t.Error("a symbol was changed", s)
		}
	}
}
