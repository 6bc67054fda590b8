package sorts

import (
	"strings"
	"testing"

	"virgation/api"
)

// P1.3

func TestPut(t *testing.T) {
	for _, x := range []struct {
		s    api.Sort
		want string
	}{
		{of(), "o"},
		{api.Sort{Args: []api.Sort{}}, "o"},
		{of(of()), "o > o"},
		{of(api.Sort{Args: []api.Sort{}}), "o > o"},
		{of(of(), of()), "o > o > o"},
		{of(of(of())), "(o > o) > o"},
		{of(of(of()), of()), "(o > o) > o > o"},
		{of(of(), of(of())), "o > (o > o) > o"},
		{of(of(of(of()), of())), "((o > o) > o > o) > o"},
		{of(of(of(), of()), of(of(of()))), "(o > o > o) > ((o > o) > o) > o"},
	} {
		if y, e := Put(x.s); y != x.want || e != api.OK {
			t.Error(x.want, y, e)
		}
	}
	for name, s := range badSorts() {
		if y, e := Put(s); y != "" || e != api.ErrSort {
			t.Error(name, y, e)
		}
	}
}

func TestPutOfAllSmallSorts(t *testing.T) {
	for _, s := range upTo(9) {
		if y, e := Put(s); y != text(s) || e != api.OK {
			t.Error(text(s), y, e)
		}
	}
}

func TestGetOfTextsThatAreNoStrings(t *testing.T) {
	for _, x := range []string{
		"", " ", "O", "0", "x", "oo", "o o", "()", "(", ")", ">", " > ", "> o", " > o", "o >", "o > ", "o>o", "o >o", "o> o",
		"o  > o", "o >  o", " o", "o ", "o > o ", "o\n", "\no", "o\x00", "o\t> o", "o -> o", "o → o", "ö", "\xff", "o\xff",
		"(o)", "(o) > o", "o > (o)", "(o > o)", "o > (o > o)", "(o > o) > (o > o)", "((o > o)) > o", "(()) > o", "() > o",
		"(o > o > o", "(o > o > o) > ", "(o > o)) > o", "(o > o) >o", "(o > o)> o", "( o > o) > o", "(o > o ) > o", "(o > ) > o",
		"(> o) > o", "o > o > x", "(x > o) > o", "(o > o) o", "o (o > o)", "(o > o) > o)", ") > o",
		strings.Repeat("(", 100), strings.Repeat("(", api.MaxText), strings.Repeat("o", api.MaxText), strings.Repeat("o > ", api.MaxText/4),
	} {
		if s, e := Get(x); e != api.ErrForm || len(s.Args) != 0 {
			t.Errorf("%.40q %v %v", x, s, e)
		}
	}
}

func TestGetOfChangedStrings(t *testing.T) {
	right := map[string]bool{}
	for _, s := range upTo(7) { // one byte more is at most one node more
		right[text(s)] = true
	}
	check := func(x string) {
		s, e := Get(x)
		if right[x] {
			if e != api.OK || text(s) != x {
				t.Errorf("%q %v", x, e)
			}
		} else if e != api.ErrForm || len(s.Args) != 0 {
			t.Errorf("%q %v %v", x, s, e)
		}
	}
	for _, s := range upTo(6) {
		x := text(s)
		for i := range len(x) + 1 {
			check(x[:i])
			check(x[i:])
			for _, c := range []string{"o", " ", ">", "(", ")", "x", "\n"} {
				check(x[:i] + c + x[i:])
				if i < len(x) {
					check(x[:i] + c + x[i+1:])
				}
			}
			if i < len(x) {
				check(x[:i] + x[i+1:])
			}
		}
	}
}

func TestGetOfSortsThatAreNotValid(t *testing.T) {
	for name, s := range badSorts() {
		if name == "nodes without end" {
			continue // its string has no end either
		}
		want := api.ErrSort
		x := text(s)
		if len(x) > api.MaxText {
			want = api.ErrLimit
		}
		if y, e := Get(x); e != want || len(y.Args) != 0 {
			t.Error(name, len(x), e)
		}
	}
	for _, x := range []string{
		strings.Repeat("o > ", 9) + "o",
		"(" + strings.Repeat("o > ", 9) + "o) > o",
		strings.Repeat("o > ", 60) + "o",
		strings.Repeat("(", 29) + "o > o" + strings.Repeat(") > o", 29),
		strings.Repeat("(", 10000) + "o > o" + strings.Repeat(") > o", 10000),
	} {
		if s, e := Get(x); e != api.ErrSort || len(s.Args) != 0 {
			t.Errorf("%.40q %v", x, e)
		}
	}
}

func TestGetAtTheLimitOfTexts(t *testing.T) {
	// Strings of sorts have odd lengths: 4 bytes for each argument o, 10 for each o > o, and 1.
	below := strings.Repeat("o > ", (api.MaxText-1-11)/4) + "(o > o) > o"
	above := strings.Repeat("o > ", api.MaxText/4) + "o"
	for _, x := range []struct {
		text string
		size int
		want api.Errno
	}{
		{below, api.MaxText - 1, api.ErrSort},
		{below + " ", api.MaxText, api.ErrForm},
		{above, api.MaxText + 1, api.ErrLimit},
		{strings.Repeat("x", api.MaxText), api.MaxText, api.ErrForm},
		{strings.Repeat("x", api.MaxText+1), api.MaxText + 1, api.ErrLimit},
		{strings.Repeat("(", api.MaxText+1), api.MaxText + 1, api.ErrLimit},
		{strings.Repeat("o", 1<<20), 1 << 20, api.ErrLimit},
	} {
		if s, e := Get(x.text); len(x.text) != x.size || e != x.want || len(s.Args) != 0 {
			t.Errorf("%.20q %d %v, not %v", x.text, len(x.text), e, x.want)
		}
	}
}

func TestGetReturnsNewMemory(t *testing.T) {
	const x = "(o > o) > (o > o) > o"
	s, _ := Get(x)
	s.Args[0].Args[0] = of(of())
	if text(s.Args[1]) != "o > o" {
		t.Error("a result shares memory with itself")
	}
	spoil(s)
	if y, e := Get(x); text(y) != x || e != api.OK {
		t.Error("a result is kept", text(y), e)
	}
}

// P1.4, P8

func TestRoundTrips(t *testing.T) {
	l := upTo(9)
	for _, s := range edgeSorts() {
		l = append(l, s)
	}
	for _, s := range l {
		x, e := Put(s)
		y, f := Get(x)
		if e != api.OK || f != api.OK || !Same(s, y) || text(y) != text(s) {
			t.Error(text(s), x, e, text(y), f)
		}
		if z, e := Put(y); z != x || e != api.OK {
			t.Error(x, z, e)
		}
	}
}

// The chapter's example.

func TestExample(t *testing.T) {
	s, e := Get("(o > o) > o > o")
	if e != api.OK || !Same(s, of(of(of()), of())) {
		t.Error(text(s), e)
	}
	order, e := Order(s)
	if nodes, depth := Size(s); e != api.OK || order != 2 || nodes != 4 || depth != 3 {
		t.Error(order, e, nodes, depth)
	}
	x, _ := Behind(s, 1)
	if y, e := Put(x); e != api.OK || y != "o > o" {
		t.Error(y, e)
	}
}
