// Package names tells what a name is.
package names

import (
	"strings"

	"virgation/api"
)

// Bytes are those of which names consist.
const Bytes = "abcdefghijklmnopqrstuvwxyz0123456789_"

// Is reports whether s is a name.
func Is(s string) bool {
	return s != "" && len(s) <= api.MaxName && isLetter(s[0]) && strings.TrimLeft(s, Bytes) == ""
}

func isLetter(c byte) bool {
	return 'a' <= c && c <= 'z'
}

// Different reports whether the elements of list have names, and no two of them the same one.
func Different[T any](list []T, name func(T) string) bool {
	met := map[string]bool{}
	for _, x := range list {
		s := name(x)
		if !Is(s) || met[s] {
			return false
		}
		met[s] = true
	}
	return true
}
