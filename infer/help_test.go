package infer

import (
	"slices"
	"strconv"
	"strings"
	"testing"

	"virgation/api"
)

func v(n int, args ...api.Term) api.Term {
	return api.Term{Kind: api.KVar, N: n, Args: args}
}

func fun(n int, args ...api.Term) api.Term {
	return api.Term{Kind: api.KFun, N: n, Args: args}
}

func sym(n int, args ...api.Term) api.Term {
	return api.Term{Kind: api.KSym, N: n, Args: args}
}

// a, b and c are terms of the symbols abc.
func a(args ...api.Term) api.Term { return sym(0, args...) }
func b(args ...api.Term) api.Term { return sym(1, args...) }
func c() api.Term                 { return sym(2) }

// abc are symbols of the ranks 2, 1, 0.
func abc() []api.Symbol {
	return []api.Symbol{{Name: "a", Rank: 2}, {Name: "b", Rank: 1}, {Name: "c"}}
}

// to makes the sort with these arguments.
func to(args ...api.Sort) api.Sort {
	return api.Sort{Args: args}
}

// is makes a loose function without a name.
func is(params int, body api.Term) Loose {
	return Loose{Params: params, Body: body}
}

// of makes loose functions f0, f1, ..: a start with the body c, and others.
func of(others ...Loose) []Loose {
	return named(append([]Loose{is(0, c())}, others...)...)
}

// named gives names to functions that have none.
func named(l ...Loose) []Loose {
	for i := range l {
		if l[i].Name == "" {
			l[i].Name = "f" + strconv.Itoa(i)
		}
	}
	return l
}

// all makes a term that has these terms, of the sort o, in it, with little depth.
func all(list ...api.Term) api.Term {
	switch len(list) {
	case 0:
		return c()
	case 1:
		return list[0]
	}
	return a(all(list[:len(list)/2]...), all(list[len(list)/2:]...))
}

// times makes n terms.
func times(n int, t api.Term) []api.Term {
	return slices.Repeat([]api.Term{t}, n)
}

// bush makes a term of n nodes and little depth.
func bush(n int) api.Term {
	if n%2 == 0 {
		return b(bush(n - 1))
	}
	return all(times((n+1)/2, c())...)
}

func tall(depth int) api.Term {
	t := c()
	for range depth - 1 {
		t = b(t)
	}
	return t
}

// shared makes a term with 2 to the power of levels, minus 1, nodes in little memory.
func shared(levels int) api.Term {
	t := c()
	for range levels - 1 {
		t = a(t, t)
	}
	return t
}

// extremes are numbers that are none of anything.
func extremes() []int {
	return []int{-1, -2, 1 << 31, -1 << 31, 1<<63 - 1, -1 << 63}
}

func sortText(s api.Sort) string {
	parts := ""
	for _, x := range s.Args {
		if len(x.Args) == 0 {
			parts += "o > "
		} else {
			parts += "(" + sortText(x) + ") > "
		}
	}
	return parts + "o"
}

func sortTexts(list []api.Sort) string {
	var parts []string
	for _, s := range list {
		parts = append(parts, sortText(s))
	}
	return strings.Join(parts, ", ")
}

// text tells loose functions of any form apart.
func text(l []Loose) string {
	var w strings.Builder
	for i, f := range l {
		if i > 0 {
			w.WriteString("; ")
		}
		w.WriteString(f.Name + "/" + strconv.Itoa(f.Params) + " = ")
		spell(&w, f.Body)
	}
	return w.String()
}

func termText(t api.Term) string {
	var w strings.Builder
	spell(&w, t)
	return w.String()
}

func spell(w *strings.Builder, t api.Term) {
	switch t.Kind {
	case api.KVar:
		w.WriteString("$")
	case api.KFun:
		w.WriteString("f")
	case api.KSym:
		w.WriteString("#")
	default:
		w.WriteString(strconv.Itoa(t.Kind) + "?")
	}
	w.WriteString(strconv.Itoa(t.N))
	for _, x := range t.Args {
		open, shut := " ", ""
		if len(x.Args) > 0 {
			open, shut = " (", ")"
		}
		w.WriteString(open)
		spell(w, x)
		w.WriteString(shut)
	}
}

// schemeText tells schemes of any form apart.
func schemeText(s api.Scheme) string {
	x := ""
	for _, y := range s.Syms {
		x += y.Name + "/" + strconv.Itoa(y.Rank) + "; "
	}
	for _, f := range s.Funs {
		x += f.Name + " : " + sortText(f.Sort) + " = " + termText(f.Body) + "; "
	}
	return x
}

// check expects sorts with these strings, and the scheme with them.
func check(t *testing.T, l []Loose, want string) {
	t.Helper()
	list, e := Sorts(abc(), l)
	if sortTexts(list) != want || e != api.OK {
		t.Errorf("%.300s: %s, not %s, %v", text(l), sortTexts(list), want, e)
	}
	checkScheme(t, l, list)
}

// fail expects an error.
func fail(t *testing.T, syms []api.Symbol, l []Loose, want api.Errno) {
	t.Helper()
	if list, e := Sorts(syms, l); len(list) != 0 || e != want {
		t.Errorf("%.300s: %s, %v, not %v", nameList(l), sortTexts(list), e, want)
	}
	if s, e := Scheme(syms, l); len(s.Syms) != 0 || len(s.Funs) != 0 || e != want {
		t.Errorf("%.300s: %d functions, %v, not %v", nameList(l), len(s.Funs), e, want)
	}
}

// nameList has the names of functions whose bodies may be too large to be written.
func nameList(l []Loose) string {
	var list []string
	for _, f := range l[:min(len(l), 70)] {
		list = append(list, f.Name)
	}
	return strings.Join(list, ", ")
}

// loosen leaves the sorts of a scheme out.
func loosen(s api.Scheme) []Loose {
	var l []Loose
	for _, f := range s.Funs {
		l = append(l, Loose{Name: f.Name, Params: len(f.Sort.Args), Body: f.Body})
	}
	return l
}
