package scan

import (
	"strings"
	"testing"

	"virgation/api"
)

func accept[T any](T) api.Errno {
	return api.OK
}

// runes reads letters x, whose number it returns, and an end.
func runes(t *Text) int {
	n := 0
	for t.Skip("x") {
		n++
	}
	t.Word(".")
	return n
}

func TestGet(t *testing.T) {
	few := func(n int) api.Errno {
		if n > 3 {
			return api.ErrTree
		}
		return api.OK
	}
	for _, x := range []struct {
		text string
		n    int
		want api.Errno
	}{
		{".", 0, api.OK},
		{"xx.", 2, api.OK},
		{"xxx.", 3, api.OK},
		{"xxxx.", 0, api.ErrTree},
		{"", 0, api.ErrForm},
		{"xx", 0, api.ErrForm},
		{"xx..", 0, api.ErrForm},
		{"xx.x", 0, api.ErrForm},
		{"yx.", 0, api.ErrForm},
		{"xxxx..", 0, api.ErrForm},
		{strings.Repeat("x", api.MaxText), 0, api.ErrForm},
		{strings.Repeat("x", api.MaxText-1) + ".", 0, api.ErrTree},
		{strings.Repeat("x", api.MaxText) + ".", 0, api.ErrLimit},
		{strings.Repeat("y", api.MaxText+1), 0, api.ErrLimit},
	} {
		if n, e := Get(x.text, runes, few); n != x.n || e != x.want {
			t.Errorf("%.20q %d %v", x.text, n, e)
		}
	}
}

func TestGetRecoversAnyPanic(t *testing.T) {
	if n, e := Get("x", func(t *Text) int { return []int{1}[len(t.Until("x"))+1] }, accept); n != 0 || e != api.ErrForm {
		t.Error(n, e)
	}
}

func TestAll(t *testing.T) {
	if n := All("xx.", runes); n != 2 {
		t.Error(n)
	}
	for _, x := range []string{"xx", "xx.."} {
		ended := func() (ended bool) {
			defer func() { ended = recover() == nil }()
			All(x, runes)
			return true
		}()
		if ended {
			t.Error(x)
		}
	}
}

func TestSkipLeavesWhatIsNotThere(t *testing.T) {
	n, e := Get("abc", func(t *Text) int {
		t.Must(!t.Skip("abd") && !t.Skip("b") && !t.Skip("abcd") && t.Skip("ab") && t.Skip("") && t.Skip("c"))
		return 1
	}, accept)
	if n != 1 || e != api.OK {
		t.Error(n, e)
	}
}

func TestUntil(t *testing.T) {
	for text, want := range map[string]string{"ab = c": "ab", " = c": "", "ab = c = d": "ab", "ab": "", "": "", "ab =": ""} {
		s, e := Get(text, func(t *Text) string {
			s := t.Until(" = ")
			t.Word("c")
			t.Skip(" = d")
			return s
		}, accept)
		if s != want || (e == api.OK) != strings.Contains(text, " = ") {
			t.Errorf("%q %q %v", text, s, e)
		}
	}
}

func TestName(t *testing.T) {
	name := func(t *Text) string {
		s := t.Name()
		t.Skip(" ")
		return s
	}
	for _, x := range []string{"a", "b0_", "a ", "a" + strings.Repeat("0", 23)} {
		if s, e := Get(x, name, accept); s != strings.TrimSpace(x) || e != api.OK {
			t.Errorf("%q %q %v", x, s, e)
		}
	}
	for _, x := range []string{"", " a", "_", "0", "A", "aB", "a-", "aé", "a\n", "a" + strings.Repeat("0", 24)} {
		if s, e := Get(x, name, accept); s != "" || e != api.ErrForm {
			t.Errorf("%q %q %v", x, s, e)
		}
	}
}

func TestNumber(t *testing.T) {
	for x, want := range map[string]int{"0": 0, "7": 7, "10": 10, "999999999": 999999999, "1000000000": 1000000000} {
		if n, e := Get(x, (*Text).Number, accept); n != want || e != api.OK {
			t.Error(x, n, e)
		}
	}
	for _, x := range []string{
		"", "00", "01", "-1", "+1", "-0", " 1", "1 ", "1.0", "1e3", "0x1", "1_0", "٣", "1000000001", "9999999999", "10000000000",
		"4294967296", "18446744073709551616", "0000000001", strings.Repeat("1", api.MaxText), strings.Repeat("0", api.MaxText),
	} {
		if n, e := Get(x, (*Text).Number, accept); n != 0 || e != api.ErrForm {
			t.Errorf("%.40q %d %v", x, n, e)
		}
	}
}
