// Package scan reads texts from their beginning to their end. Where a text is not as it must be, reading ends with a
// panic, which Get recovers: no reader has to hand errors on.
package scan

import (
	"strconv"
	"strings"

	"virgation/api"
	"virgation/names"
)

const (
	digits    = "0123456789"
	maxNumber = 1_000_000_000
)

// Get returns what read makes of text: ErrLimit if that has more than MaxText bytes, ErrForm if it is not as read asks
// for, and the error of check for what was read.
func Get[T any](text string, read func(*Text) T, check func(T) api.Errno) (T, api.Errno) {
	var none T
	if len(text) > api.MaxText {
		return none, api.ErrLimit
	}
	x, right := attempt(text, read)
	if !right {
		return none, api.ErrForm
	}
	if e := check(x); e != api.OK {
		return none, e
	}
	return x, api.OK
}

// attempt is All, but false where that panics.
func attempt[T any](text string, read func(*Text) T) (x T, right bool) {
	defer func() { right = recover() == nil }()
	return All(text, read), true
}

// All returns what read makes of text, and panics if text is not as read asks for or read leaves something of it.
func All[T any](text string, read func(*Text) T) T {
	t := &Text{rest: text}
	x := read(t)
	t.Must(t.rest == "")
	return x
}

// Text is what is left of a text.
type Text struct {
	rest string
}

// Must panics unless right.
func (t *Text) Must(right bool) {
	if !right {
		panic(api.ErrForm)
	}
}

// Skip reports whether t begins with word, and moves behind it if so.
func (t *Text) Skip(word string) bool {
	rest, found := strings.CutPrefix(t.rest, word)
	t.rest = rest
	return found
}

// Word moves behind word, with which t must begin.
func (t *Text) Word(word string) {
	t.Must(t.Skip(word))
}

// Until returns what is ahead of the first word in t, and moves behind that word, which must be there.
func (t *Text) Until(word string) string {
	part, rest, found := strings.Cut(t.rest, word)
	t.Must(found)
	t.rest = rest
	return part
}

// Name reads a name.
func (t *Text) Name() string {
	s := t.run(names.Bytes)
	t.Must(names.Is(s))
	return s
}

// Number reads a decimal number without leading zeros that is at most 10^9.
func (t *Text) Number() int {
	s := t.run(digits)
	n, e := strconv.Atoi(s)
	t.Must(e == nil && n <= maxNumber && (s == "0" || s[0] != '0'))
	return n
}

// run moves behind the bytes of a kind with which t begins, and returns them.
func (t *Text) run(kind string) string {
	rest := strings.TrimLeft(t.rest, kind)
	part := t.rest[:len(t.rest)-len(rest)]
	t.rest = rest
	return part
}
