package tree

import (
	"slices"
	"strings"

	"virgation/api"
	"virgation/scan"
	"virgation/symbol"
)

const (
	unknownText = "_"
	end         = ")"
)

// ahead returns what stands ahead of the kid of number i.
func ahead(i int) string {
	if i == 0 {
		return "("
	}
	return ","
}

// Put returns the string of t, a tree over syms.
func Put(syms []api.Symbol, t api.Tree) (string, api.Errno) {
	if !symbol.Are(syms) {
		return "", api.ErrArg
	}
	if e := check(symbol.Ranks(syms), t); e != api.OK {
		return "", e
	}
	var b strings.Builder
	write(&b, syms, t)
	if b.Len() > api.MaxText {
		return "", api.ErrLimit
	}
	return b.String(), api.OK
}

func write(b *strings.Builder, syms []api.Symbol, t api.Tree) {
	if isUnknown(t) {
		b.WriteString(unknownText)
		return
	}
	b.WriteString(syms[t.Sym].Name)
	for i, x := range t.Kids {
		b.WriteString(ahead(i))
		write(b, syms, x)
	}
	if len(t.Kids) > 0 {
		b.WriteString(end)
	}
}

// Get returns the tree over syms whose string is text.
func Get(syms []api.Symbol, text string) (api.Tree, api.Errno) {
	if !symbol.Are(syms) {
		return api.Tree{}, api.ErrArg
	}
	read := func(t *scan.Text) api.Tree {
		return readTree(t, syms)
	}
	return scan.Get(text, read, func(t api.Tree) api.Errno {
		return check(symbol.Ranks(syms), t)
	})
}

// readTree reads a tree of any size.
func readTree(t *scan.Text, syms []api.Symbol) api.Tree {
	if t.Skip(unknownText) {
		return api.Tree{Sym: unknown}
	}
	x := api.Tree{Sym: readSym(t, syms)}
	rank := syms[x.Sym].Rank
	for i := range rank {
		t.Word(ahead(i))
		x.Kids = append(x.Kids, readTree(t, syms))
	}
	if rank > 0 {
		t.Word(end)
	}
	return x
}

// readSym reads the name of one of syms, and returns its number.
func readSym(t *scan.Text, syms []api.Symbol) int {
	name := t.Name()
	n := slices.IndexFunc(syms, func(x api.Symbol) bool {
		return x.Name == name
	})
	t.Must(n >= 0)
	return n
}
