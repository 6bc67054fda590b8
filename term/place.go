package term

import (
	"slices"

	"virgation/api"
	"virgation/sorts"
)

// Place gives terms a meaning: symbols, and the sorts of functions and of parameters.
type Place struct {
	Syms   []api.Symbol
	Funs   []api.Sort
	Params []api.Sort
}

// Check returns ErrArg if p is not a valid place, otherwise OK.
func Check(p Place) api.Errno {
	if !areSymbols(p.Syms) || !areSorts(p.Funs, api.MaxFuns) || !areSorts(p.Params, api.MaxArgs) {
		return api.ErrArg
	}
	return api.OK
}

func areSorts(list []api.Sort, most int) bool {
	return len(list) <= most && !slices.ContainsFunc(list, func(s api.Sort) bool {
		return sorts.Check(s) != api.OK
	})
}

func areSymbols(syms []api.Symbol) bool {
	if len(syms) > api.MaxSyms {
		return false
	}
	met := map[string]bool{}
	for _, x := range syms {
		if !isName(x.Name) || met[x.Name] || x.Rank < 0 || x.Rank > api.MaxRank {
			return false
		}
		met[x.Name] = true
	}
	return true
}

func isName(s string) bool {
	if len(s) == 0 || len(s) > api.MaxName || !isLetter(s[0]) {
		return false
	}
	for i := range len(s) {
		if !isLetter(s[i]) && !isDigit(s[i]) && s[i] != '_' {
			return false
		}
	}
	return true
}

func isLetter(c byte) bool {
	return 'a' <= c && c <= 'z'
}

func isDigit(c byte) bool {
	return '0' <= c && c <= '9'
}
