package names

import (
	"strings"
	"testing"
)

func TestIs(t *testing.T) {
	for _, s := range []string{"a", "z", "a0", "a_", "az09_", "a__", "abcdefghijklmnopqrstuvwx", "a" + strings.Repeat("_", 23)} {
		if !Is(s) {
			t.Errorf("%q", s)
		}
	}
	for _, s := range []string{
		"", "0", "9a", "_", "_a", "A", "aB", "a b", " a", "a ", "a\n", "a\x00", "a-b", "a.b", "$a", "#a", "é", "aé", "a\xff", "\xffa",
		"a" + strings.Repeat("_", 24), strings.Repeat("a", 1<<20),
	} {
		if Is(s) {
			t.Errorf("%.40q", s)
		}
	}
}

func TestIsOfAllBytes(t *testing.T) {
	for c := range 256 {
		letter := c >= 'a' && c <= 'z'
		if Is(string([]byte{byte(c)})) != letter {
			t.Error("first", c)
		}
		if Is(string([]byte{'a', byte(c), 'a'})) != (letter || c >= '0' && c <= '9' || c == '_') {
			t.Error("inside", c)
		}
	}
}

func TestDifferent(t *testing.T) {
	self := func(s string) string { return s }
	for _, l := range [][]string{nil, {"a"}, {"a", "b"}, {"ab", "a", "b", "aa"}} {
		if !Different(l, self) {
			t.Error(l)
		}
	}
	for _, l := range [][]string{{""}, {"A"}, {"a", "a"}, {"a", "b", "a"}, {"a", "b", "b"}, {"a", "b", "_"}, {"a", ""}} {
		if Different(l, self) {
			t.Error(l)
		}
	}
	type thing struct{ name string }
	if Different([]thing{{"a"}, {"a"}}, func(x thing) string { return x.name }) {
		t.Error("names are those that are asked for")
	}
}
