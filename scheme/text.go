package scheme

import (
	"slices"
	"strconv"
	"strings"

	"virgation/api"
	"virgation/scan"
	"virgation/sorts"
)

const (
	symbolWord = "symbol "
	funWord    = "fun "
	sortWord   = " : "
	bodyWord   = " = "
	endOfLine  = "\n"
)

// Put returns the string of s.
func Put(s api.Scheme) (string, api.Errno) {
	if e := Check(s); e != api.OK {
		return "", e
	}
	var b strings.Builder
	for _, x := range s.Syms {
		b.WriteString(symbolWord + x.Name + " " + strconv.Itoa(x.Rank) + endOfLine)
	}
	for _, f := range s.Funs {
		sort, _ := sorts.Put(f.Sort)
		b.WriteString(funWord + f.Name + sortWord + sort + bodyWord)
		write(&b, s, f.Body)
		b.WriteString(endOfLine)
	}
	if b.Len() > api.MaxText {
		return "", api.ErrLimit
	}
	return b.String(), api.OK
}

func write(b *strings.Builder, s api.Scheme, t api.Term) {
	b.WriteString(headText(s, t))
	for _, x := range t.Args {
		b.WriteByte(' ')
		if len(x.Args) == 0 {
			b.WriteString(headText(s, x))
			continue
		}
		b.WriteByte('(')
		write(b, s, x)
		b.WriteByte(')')
	}
}

func headText(s api.Scheme, t api.Term) string {
	switch t.Kind {
	case api.KVar:
		return "$" + strconv.Itoa(t.N)
	case api.KSym:
		return "#" + s.Syms[t.N].Name
	}
	return s.Funs[t.N].Name
}

// Get returns the scheme whose string is text.
func Get(text string) (api.Scheme, api.Errno) {
	var r reader
	return scan.Get(text, r.scheme, r.check)
}

// reader has the numbers of the names that terms may have.
type reader struct {
	syms, funs map[string]int
	wrongSort  bool // a sort was read that is not valid, and therefore is not kept
}

func (r *reader) check(s api.Scheme) api.Errno {
	if r.wrongSort {
		return api.ErrScheme
	}
	return Check(s)
}

func (r *reader) scheme(t *scan.Text) api.Scheme {
	var s api.Scheme
	for t.Skip(symbolWord) {
		s.Syms = append(s.Syms, readSymbol(t))
	}
	var bodies []string
	for t.Skip(funWord) {
		s.Funs = append(s.Funs, r.fun(t))
		bodies = append(bodies, t.Until(endOfLine))
	}
	r.syms = numbers(s.Syms, symbolName)
	r.funs = numbers(s.Funs, funName)
	// Bodies may name functions of later lines: they are read when all names are known.
	for i, x := range bodies {
		s.Funs[i].Body = scan.All(x, r.term)
	}
	return s
}

func readSymbol(t *scan.Text) api.Symbol {
	x := api.Symbol{Name: t.Name()}
	t.Word(" ")
	x.Rank = t.Number()
	t.Word(endOfLine)
	return x
}

func symbolName(x api.Symbol) string {
	return x.Name
}

// numbers returns the number of each name, the first one if there are several.
func numbers[T any](list []T, name func(T) string) map[string]int {
	m := map[string]int{}
	for i, x := range slices.Backward(list) {
		m[name(x)] = i
	}
	return m
}

// fun reads a function up to its body.
func (r *reader) fun(t *scan.Text) api.Fun {
	f := api.Fun{Name: t.Name()}
	t.Word(sortWord)
	s, e := sorts.Get(t.Until(bodyWord))
	t.Must(e != api.ErrForm)
	r.wrongSort = r.wrongSort || e != api.OK
	f.Sort = s
	return f
}

func (r *reader) term(t *scan.Text) api.Term {
	x := r.head(t)
	for t.Skip(" ") {
		x.Args = append(x.Args, r.arg(t))
	}
	return x
}

func (r *reader) head(t *scan.Text) api.Term {
	if t.Skip("$") {
		return api.Term{Kind: api.KVar, N: t.Number()}
	}
	if t.Skip("#") {
		return api.Term{Kind: api.KSym, N: number(t, r.syms)}
	}
	return api.Term{Kind: api.KFun, N: number(t, r.funs)}
}

// number reads a name that has a number.
func number(t *scan.Text, of map[string]int) int {
	n, known := of[t.Name()]
	t.Must(known)
	return n
}

func (r *reader) arg(t *scan.Text) api.Term {
	if !t.Skip("(") {
		return r.head(t)
	}
	x := r.term(t)
	t.Must(len(x.Args) > 0)
	t.Word(")")
	return x
}
