// Package symbol tells what the symbols of trees are, and their ranks.
package symbol

import (
	"slices"

	"virgation/api"
	"virgation/names"
)

// Are reports whether syms are symbols.
func Are(syms []api.Symbol) bool {
	return AreRanks(Ranks(syms)) && names.Different(syms, name)
}

func name(x api.Symbol) string {
	return x.Name
}

// AreRanks reports whether there may be symbols of these ranks.
func AreRanks(ranks []int) bool {
	return len(ranks) <= api.MaxSyms && !slices.ContainsFunc(ranks, isWrong)
}

func isWrong(rank int) bool {
	return rank < 0 || rank > api.MaxRank
}

// Ranks returns the ranks of syms.
func Ranks(syms []api.Symbol) []int {
	ranks := make([]int, 0, len(syms))
	for _, x := range syms {
		ranks = append(ranks, x.Rank)
	}
	return ranks
}
