package term

import (
	"slices"

	"virgation/api"
	"virgation/sorts"
	"virgation/symbol"
)

// Place gives terms a meaning: symbols, and the sorts of functions and of parameters.
type Place struct {
	Syms   []api.Symbol
	Funs   []api.Sort
	Params []api.Sort
}

// Check returns ErrArg if p is not a valid place, otherwise OK.
func Check(p Place) api.Errno {
	if !symbol.Are(p.Syms) || !areSorts(p.Funs, api.MaxFuns) || !areSorts(p.Params, api.MaxArgs) {
		return api.ErrArg
	}
	return api.OK
}

func areSorts(list []api.Sort, most int) bool {
	return len(list) <= most && !slices.ContainsFunc(list, func(s api.Sort) bool {
		return sorts.Check(s) != api.OK
	})
}
