package term

import (
	"strconv"
	"strings"
	"testing"

	"virgation/api"
)

func named(name string) Place {
	return Place{Syms: []api.Symbol{{Name: name}}}
}

func withRank(rank int) Place {
	return Place{Syms: []api.Symbol{{Name: "a", Rank: rank}}}
}

// symbols makes n symbols with different names.
func symbols(n int) []api.Symbol {
	var list []api.Symbol
	for i := range n {
		list = append(list, api.Symbol{Name: "s" + strconv.Itoa(i), Rank: i % 5})
	}
	return list
}

func rightPlaces() map[string]Place {
	return map[string]Place{
		"empty":                {},
		"empty slices":         {Syms: []api.Symbol{}, Funs: []api.Sort{}, Params: []api.Sort{}},
		"one letter":           named("a"),
		"last letter":          named("z"),
		"all kinds of bytes":   named("az09_"),
		"a digit at the end":   named("a0"),
		"underscores":          named("a__"),
		"the longest name":     named("a" + strings.Repeat("_", 23)),
		"rank 0":               withRank(0),
		"rank 4":               withRank(4),
		"24 symbols":           {Syms: symbols(24)},
		"64 functions":         {Funs: make([]api.Sort, 64)},
		"8 parameters":         {Params: make([]api.Sort, 8)},
		"deep sorts":           {Funs: []api.Sort{tallSort(30)}, Params: []api.Sort{tallSort(30)}},
		"sorts with 8":         {Funs: []api.Sort{to(make([]api.Sort, 8)...)}, Params: []api.Sort{to(make([]api.Sort, 8)...)}},
		"equal sorts":          {Funs: []api.Sort{to(to()), to(to())}, Params: []api.Sort{to(to()), to(to())}},
		"names of equal begin": {Syms: []api.Symbol{{Name: "ab"}, {Name: "a"}, {Name: "abc"}}},
		"as much as there is":  {Syms: symbols(24), Funs: make([]api.Sort, 64), Params: make([]api.Sort, 8)},
	}
}

func wrongPlaces() map[string]Place {
	o := to()
	return map[string]Place{
		"no name":               named(""),
		"a digit first":         named("0a"),
		"an underscore first":   named("_a"),
		"a capital":             named("A"),
		"a capital inside":      named("aB"),
		"a blank":               named("a b"),
		"a blank behind":        named("a "),
		"a line feed":           named("a\n"),
		"a zero byte":           named("a\x00"),
		"ahead of a":            named("`"),
		"behind z":              named("{"),
		"ahead of 0":            named("a/"),
		"behind 9":              named("a:"),
		"a dash":                named("a-b"),
		"a letter elsewhere":    named("é"),
		"a letter inside":       named("aé"),
		"no UTF-8":              named("a\xff"),
		"a name too long":       named("a" + strings.Repeat("_", 24)),
		"a name far too long":   named(strings.Repeat("a", 1<<20)),
		"rank 5":                withRank(5),
		"rank -1":               withRank(-1),
		"25 symbols":            {Syms: symbols(25)},
		"many symbols":          {Syms: make([]api.Symbol, 1<<20)},
		"a name twice":          {Syms: []api.Symbol{{Name: "a"}, {Name: "a"}}},
		"twice, not together":   {Syms: []api.Symbol{{Name: "a", Rank: 2}, {Name: "b"}, {Name: "a"}}},
		"the last one wrong":    {Syms: []api.Symbol{{Name: "a"}, {Name: "b"}, {Name: "_"}}},
		"65 functions":          {Funs: make([]api.Sort, 65)},
		"many functions":        {Funs: make([]api.Sort, 1<<20)},
		"9 parameters":          {Params: make([]api.Sort, 9)},
		"many parameters":       {Params: make([]api.Sort, 1<<20)},
		"a function's sort":     {Funs: []api.Sort{o, to(make([]api.Sort, 9)...)}},
		"a function's depth":    {Funs: []api.Sort{tallSort(31)}},
		"a function's nodes":    {Funs: []api.Sort{to(make([]api.Sort, 60)...)}},
		"a parameter's sort":    {Params: []api.Sort{o, to(make([]api.Sort, 9)...)}},
		"a parameter's depth":   {Params: []api.Sort{tallSort(31)}},
		"all right but a param": {Syms: symbols(24), Funs: make([]api.Sort, 64), Params: []api.Sort{o, tallSort(31)}},
	}
}

// P2.1

func TestCheck(t *testing.T) {
	for name, p := range rightPlaces() {
		if e := Check(p); e != api.OK {
			t.Error(name, e)
		}
	}
	for name, p := range wrongPlaces() {
		if e := Check(p); e != api.ErrArg {
			t.Error(name, e)
		}
	}
	for _, n := range extremes() {
		if e := Check(withRank(n)); e != api.ErrArg {
			t.Error(n, e)
		}
	}
}

func TestCheckOfAllBytes(t *testing.T) {
	for c := range 256 {
		letter := c >= 'a' && c <= 'z'
		if e := Check(named(string([]byte{byte(c)}))); (e == api.OK) != letter {
			t.Error("first", c, e)
		}
		inside := letter || c >= '0' && c <= '9' || c == '_'
		if e := Check(named(string([]byte{'a', byte(c), 'a'}))); (e == api.OK) != inside {
			t.Error("inside", c, e)
		}
	}
}
