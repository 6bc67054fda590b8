package sorts

import (
	"strings"

	"virgation/api"
)

const (
	arrow = " > "
	end   = "o"
)

// Put returns the string of s.
func Put(s api.Sort) (string, api.Errno) {
	if e := Check(s); e != api.OK {
		return "", e
	}
	var b strings.Builder
	write(&b, s)
	return b.String(), api.OK
}

func write(b *strings.Builder, s api.Sort) {
	for _, x := range s.Args {
		writeArg(b, x)
		b.WriteString(arrow)
	}
	b.WriteString(end)
}

func writeArg(b *strings.Builder, x api.Sort) {
	if len(x.Args) == 0 {
		b.WriteString(end)
		return
	}
	b.WriteByte('(')
	write(b, x)
	b.WriteByte(')')
}

// Get returns the sort whose string is text.
func Get(text string) (api.Sort, api.Errno) {
	if len(text) > api.MaxText {
		return api.Sort{}, api.ErrLimit
	}
	s, e := read(text)
	if e == api.OK {
		e = Check(s)
	}
	if e != api.OK {
		return api.Sort{}, e
	}
	return s, api.OK
}

// read returns the sort whose string is text, whatever its size.
func read(text string) (s api.Sort, e api.Errno) {
	defer func() {
		if recover() != nil {
			s, e = api.Sort{}, api.ErrForm
		}
	}()
	r := reader{rest: text}
	s = r.sort()
	r.must(r.rest == "")
	return s, api.OK
}

// reader has what is left of a text. It panics with ErrForm where that is not what a sort's string has there.
type reader struct {
	rest string
}

func (r *reader) must(right bool) {
	if !right {
		panic(api.ErrForm)
	}
}

// skip reports whether the rest begins with a word, and moves behind it if so.
func (r *reader) skip(word string) bool {
	rest, found := strings.CutPrefix(r.rest, word)
	r.rest = rest
	return found
}

func (r *reader) sort() api.Sort {
	var s api.Sort
	for {
		x, bracketed := r.part()
		if !r.skip(arrow) {
			// What has no arrow behind it is the result, and that is a tree.
			r.must(!bracketed)
			return s
		}
		s.Args = append(s.Args, x)
	}
}

// part reads o, or a sort in brackets, which is not o.
func (r *reader) part() (x api.Sort, bracketed bool) {
	if !r.skip("(") {
		r.must(r.skip(end))
		return api.Sort{}, false
	}
	x = r.sort()
	r.must(len(x.Args) > 0 && r.skip(")"))
	return x, true
}
