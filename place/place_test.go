package place

import (
	"slices"
	"testing"

	"virgation/api"
	"virgation/sorts"
	"virgation/term"
)

func TestOf(t *testing.T) {
	o := api.Sort{}
	unary := api.Sort{Args: []api.Sort{o}}
	binary := api.Sort{Args: []api.Sort{o, o}}
	s := api.Scheme{
		Syms: []api.Symbol{{Name: "a", Rank: 2}, {Name: "c"}},
		Funs: []api.Fun{{Name: "s"}, {Name: "f", Sort: unary}, {Name: "g", Sort: binary}},
	}
	p := Of(s, []api.Sort{binary, o})
	if !slices.Equal(p.Syms, s.Syms) {
		t.Error(p.Syms)
	}
	if !slices.EqualFunc(p.Funs, []api.Sort{o, unary, binary}, sorts.Same) {
		t.Error(p.Funs)
	}
	if !slices.EqualFunc(p.Params, []api.Sort{binary, o}, sorts.Same) {
		t.Error(p.Params)
	}
	if e := term.Check(p); e != api.OK {
		t.Error(e)
	}
}

func TestOfNothing(t *testing.T) {
	p := Of(api.Scheme{}, nil)
	if len(p.Syms) != 0 || len(p.Funs) != 0 || len(p.Params) != 0 {
		t.Error(p)
	}
}
