package step

import (
	"math"
	"strconv"
	"strings"
	"testing"

	"virgation/api"
	"virgation/scheme"
)

// abc are the symbols a, b, c of the ranks 2, 1, 0.
const abc = "symbol a 2\nsymbol b 1\nsymbol c 0\n"

// sums is the scheme of layer 3's example.
const sums = abc + "fun s : o = f #c\nfun f : o > o = #a $0 (f (#b $0))\n"

// lots has functions of many sorts.
const lots = abc +
	"fun s : o = s\n" +
	"fun id : o > o = $0\n" +
	"fun left : o > o > o = $0\n" +
	"fun swap : (o > o > o) > o > o > o = $0 $2 $1\n" +
	"fun twice : (o > o) > o > o = $0 ($0 $1)\n" +
	"fun call : ((o > o) > o) > o = $0 #b\n" +
	"fun give : o > (o > o) > o = $1 $0\n" +
	"fun two : o > o = #a $0 $0\n" +
	"fun off : o > o = #c\n"

// Numbers of the functions of lots.
const (
	_ = iota
	id
	left
	swap
	twice
	call
	give
	two
	off
)

func v(n int, args ...api.Term) api.Term {
	return api.Term{Kind: api.KVar, N: n, Args: args}
}

func fun(n int, args ...api.Term) api.Term {
	return api.Term{Kind: api.KFun, N: n, Args: args}
}

// a, b and c are terms of the symbols abc.
func a(args ...api.Term) api.Term { return api.Term{Kind: api.KSym, N: 0, Args: args} }
func b(args ...api.Term) api.Term { return api.Term{Kind: api.KSym, N: 1, Args: args} }
func c() api.Term                 { return api.Term{Kind: api.KSym, N: 2} }

// bush makes a term of n nodes and little depth.
func bush(n int) api.Term {
	switch n {
	case 1:
		return c()
	case 2:
		return b(c())
	}
	return a(bush((n-1)/2), bush(n-1-(n-1)/2))
}

func tall(depth int) api.Term {
	t := c()
	for range depth - 1 {
		t = b(t)
	}
	return t
}

// shared makes a term with 2 to the power of levels, minus 1, nodes in little memory.
func shared(levels int) api.Term {
	t := c()
	for range levels - 1 {
		t = a(t, t)
	}
	return t
}

// extremes are numbers that are none of anything.
func extremes() []int {
	return []int{-1, -2, 1 << 31, -1 << 31, math.MaxInt, math.MinInt}
}

// get returns the scheme with this string.
func get(t *testing.T, text string) api.Scheme {
	t.Helper()
	s, e := scheme.Get(text)
	if e != api.OK {
		t.Fatal(text, e)
	}
	return s
}

// put returns the string of a scheme, or where it is too long what tells it from others.
func put(s api.Scheme) string {
	x, _ := scheme.Put(s)
	for _, f := range s.Funs {
		x += text(f.Body)
	}
	return x
}

// text tells terms of any form apart.
func text(t api.Term) string {
	var w strings.Builder
	spell(&w, t)
	return w.String()
}

func spell(w *strings.Builder, t api.Term) {
	switch t.Kind {
	case api.KVar:
		w.WriteString("$" + strconv.Itoa(t.N))
	case api.KFun:
		w.WriteString("f" + strconv.Itoa(t.N))
	case api.KSym:
		w.WriteString("#" + strconv.Itoa(t.N))
	default:
		w.WriteString(strconv.Itoa(t.Kind) + "?" + strconv.Itoa(t.N))
	}
	for _, x := range t.Args {
		w.WriteString("(")
		spell(w, x)
		w.WriteString(")")
	}
}

// isZero reports whether t is the zero value.
func isZero(t api.Term) bool {
	return t.Kind == 0 && t.N == 0 && len(t.Args) == 0
}

// fail expects that Step, Run and Heads return an error and nothing else.
func fail(t *testing.T, name string, s api.Scheme, x api.Term, fuel int, want api.Errno) {
	t.Helper()
	if want != api.ErrArg && want != api.ErrFuel { // Step has no fuel
		if y, moved, e := Step(s, x); !isZero(y) || moved || e != want {
			t.Error(name, moved, e, want)
		}
	}
	failRun(t, name, s, x, fuel, want)
	if l, e := Heads(s, x, fuel); len(l) != 0 || e != want {
		t.Error(name, len(l), e, want)
	}
}

func failRun(t *testing.T, name string, s api.Scheme, x api.Term, fuel int, want api.Errno) {
	t.Helper()
	if y, n, e := Run(s, x, fuel); !isZero(y) || n != 0 || e != want {
		t.Error(name, n, e, want)
	}
}

// spoil changes all that can be reached from a result.
func spoil(t api.Term) {
	for i, x := range t.Args {
		spoil(x)
		t.Args[i] = fun(77, fun(77))
	}
	_ = append(t.Args, fun(77))
}

// disjoint reports whether no two slices in t share memory: each node is numbered where it lies, and read back.
func disjoint(t api.Term) bool {
	next := 0
	number(t, &next)
	next = 0
	return numbered(t, &next)
}

func number(t api.Term, next *int) {
	for i := range t.Args {
		t.Args[i].N = *next
		*next++
		number(t.Args[i], next)
	}
}

func numbered(t api.Term, next *int) bool {
	for _, x := range t.Args {
		if x.N != *next {
			return false
		}
		*next++
		if !numbered(x, next) {
			return false
		}
	}
	return true
}
