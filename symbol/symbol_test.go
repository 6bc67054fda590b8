package symbol

import (
	"math"
	"slices"
	"strconv"
	"strings"
	"testing"

	"virgation/api"
)

// some makes n symbols with different names.
func some(n int) []api.Symbol {
	var list []api.Symbol
	for i := range n {
		list = append(list, api.Symbol{Name: "s" + strconv.Itoa(i), Rank: i % (api.MaxRank + 1)})
	}
	return list
}

func TestAre(t *testing.T) {
	for name, syms := range map[string][]api.Symbol{
		"none":             nil,
		"an empty slice":   {},
		"one":              {{Name: "a"}},
		"the longest name": {{Name: "a" + strings.Repeat("_", api.MaxName-1)}},
		"the highest rank": {{Name: "a", Rank: api.MaxRank}},
		"as many as allow": some(api.MaxSyms),
	} {
		if !Are(syms) {
			t.Error(name)
		}
	}
	for name, syms := range map[string][]api.Symbol{
		"no name":             {{Name: "a"}, {}},
		"unknown":             {{Name: "_"}},
		"a name too long":     {{Name: "a" + strings.Repeat("_", api.MaxName)}},
		"a name twice":        {{Name: "a", Rank: 2}, {Name: "b"}, {Name: "a"}},
		"a rank too high":     {{Name: "a"}, {Name: "b", Rank: api.MaxRank + 1}},
		"a rank below 0":      {{Name: "a"}, {Name: "b", Rank: -1}},
		"one too many":        some(api.MaxSyms + 1),
		"far too many":        some(1 << 17),
		"far too many, equal": make([]api.Symbol, 1<<17),
	} {
		if Are(syms) {
			t.Error(name)
		}
	}
}

func TestAreRanks(t *testing.T) {
	for _, ranks := range [][]int{nil, {}, {0}, {0, 1, 2, 3, api.MaxRank}, make([]int, api.MaxSyms)} {
		if !AreRanks(ranks) {
			t.Error(ranks)
		}
	}
	for _, ranks := range [][]int{{-1}, {0, api.MaxRank + 1}, {0, 0, math.MinInt}, {math.MaxInt, 0}, make([]int, api.MaxSyms+1)} {
		if AreRanks(ranks) {
			t.Error(ranks)
		}
	}
}

func TestRanks(t *testing.T) {
	if r := Ranks([]api.Symbol{{Name: "a", Rank: 2}, {Name: "b", Rank: 1}, {Name: "c"}}); !slices.Equal(r, []int{2, 1, 0}) {
		t.Error(r)
	}
	if r := Ranks(nil); len(r) != 0 {
		t.Error(r)
	}
	wrong := []api.Symbol{{Rank: -7}, {Rank: math.MaxInt}} // they are taken as they are
	if r := Ranks(wrong); !slices.Equal(r, []int{-7, math.MaxInt}) {
		t.Error(r)
	}
}
