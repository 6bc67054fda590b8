package sorts

import (
	"strings"

	"virgation/api"
	"virgation/scan"
)

const (
	arrow = " > "
	end   = "o"
)

// Put returns the string of s.
func Put(s api.Sort) (string, api.Errno) {
	if e := Check(s); e != api.OK {
		return "", e
	}
	var b strings.Builder
	write(&b, s)
	return b.String(), api.OK
}

func write(b *strings.Builder, s api.Sort) {
	for _, x := range s.Args {
		writeArg(b, x)
		b.WriteString(arrow)
	}
	b.WriteString(end)
}

func writeArg(b *strings.Builder, x api.Sort) {
	if len(x.Args) == 0 {
		b.WriteString(end)
		return
	}
	b.WriteByte('(')
	write(b, x)
	b.WriteByte(')')
}

// Get returns the sort whose string is text.
func Get(text string) (api.Sort, api.Errno) {
	return scan.Get(text, read, Check)
}

func read(t *scan.Text) api.Sort {
	var s api.Sort
	for {
		x, bracketed := readPart(t)
		if !t.Skip(arrow) {
			// What has no arrow behind it is the result, and that is a tree.
			t.Must(!bracketed)
			return s
		}
		s.Args = append(s.Args, x)
	}
}

// readPart reads o, or a sort in brackets, which is not o.
func readPart(t *scan.Text) (x api.Sort, bracketed bool) {
	if !t.Skip("(") {
		t.Word(end)
		return api.Sort{}, false
	}
	x = read(t)
	t.Must(len(x.Args) > 0)
	t.Word(")")
	return x, true
}
