// Package place tells where the terms of a scheme have their meaning.
package place

import (
	"virgation/api"
	"virgation/term"
)

// Of returns the place of the symbols and functions of s, and of parameters of these sorts. It shares memory with both,
// and is valid if they are.
func Of(s api.Scheme, params []api.Sort) term.Place {
	p := term.Place{Syms: s.Syms, Params: params}
	for _, f := range s.Funs {
		p.Funs = append(p.Funs, f.Sort)
	}
	return p
}
