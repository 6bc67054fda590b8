// Package sample makes schemes for the tests of all layers.
package sample

import (
	"strconv"

	"virgation/api"
)

// Chance makes numbers that look like chance, always the same ones.
type Chance uint64

// Below returns the next number, which is from 0 to n - 1.
func (r *Chance) Below(n int) int {
	*r = *r*6364136223846793005 + 1442695040888963407
	return int(uint64(*r)>>33) % n
}

// Symbols are a, b, c of the ranks 2, 1, 0.
func Symbols() []api.Symbol {
	return []api.Symbol{{Name: "a", Rank: 2}, {Name: "b", Rank: 1}, {Name: "c"}}
}

// Schemes makes n valid schemes over Symbols, with functions f0, f1, ..
func Schemes(n int) []api.Scheme {
	r := new(Chance)
	var list []api.Scheme
	for len(list) < n {
		s := r.scheme()
		if len(s.Funs) <= api.MaxFuns {
			list = append(list, s)
		}
	}
	return list
}

// scheme makes a scheme that is valid unless it has too many functions.
func (r *Chance) scheme() api.Scheme {
	s := api.Scheme{Syms: Symbols(), Funs: []api.Fun{{}}}
	for range 1 + r.Below(5) {
		s.Funs = append(s.Funs, api.Fun{Sort: r.sort(3)})
	}
	for i := range len(s.Funs) {
		s.Funs[i].Body = r.term(&s, s.Funs[i].Sort.Args, api.Sort{}, 4)
	}
	for i := range s.Funs {
		s.Funs[i].Name = "f" + strconv.Itoa(i)
	}
	return s
}

func (r *Chance) sort(depth int) api.Sort {
	var s api.Sort
	if depth > 0 {
		for range r.Below(4) {
			s.Args = append(s.Args, r.sort(depth-1-r.Below(2)))
		}
	}
	return s
}

// head is a head with its sort.
type head struct {
	kind, n int
	sort    api.Sort
}

// term makes a term of the sort want. Where there is no head for it, it adds a function of that sort.
func (r *Chance) term(s *api.Scheme, params []api.Sort, want api.Sort, depth int) api.Term {
	var fit []head
	for _, h := range heads(s, params) {
		behind := len(h.sort.Args) - len(want.Args)
		if (behind == 0 || behind > 0 && depth > 0) && same(h.sort.Args[behind:], want.Args) {
			fit = append(fit, h)
		}
	}
	if len(fit) == 0 {
		s.Funs = append(s.Funs, api.Fun{Sort: want, Body: api.Term{Kind: api.KSym, N: 2}})
		return api.Term{Kind: api.KFun, N: len(s.Funs) - 1}
	}
	h := fit[r.Below(len(fit))]
	t := api.Term{Kind: h.kind, N: h.n}
	for _, x := range h.sort.Args[:len(h.sort.Args)-len(want.Args)] {
		t.Args = append(t.Args, r.term(s, params, x, depth-1))
	}
	return t
}

func heads(s *api.Scheme, params []api.Sort) []head {
	var list []head
	for i, x := range params {
		h := head{api.KVar, i, x}
		list = append(list, h, h) // twice: parameters are rare otherwise
	}
	for i, f := range s.Funs {
		list = append(list, head{api.KFun, i, f.Sort})
	}
	for i, x := range s.Syms {
		list = append(list, head{api.KSym, i, api.Sort{Args: make([]api.Sort, x.Rank)}})
	}
	return list
}

func same(a, b []api.Sort) bool {
	if len(a) != len(b) {
		return false
	}
	for i, x := range a {
		if !same(x.Args, b[i].Args) {
			return false
		}
	}
	return true
}
