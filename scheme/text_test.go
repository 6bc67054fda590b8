package scheme

import (
	"regexp"
	"strconv"
	"strings"
	"testing"

	"virgation/api"
	"virgation/sorts"
)

// P3.3

func TestPut(t *testing.T) {
	o := to()
	head := "symbol a 2\nsymbol b 1\nsymbol c 0\n"
	for _, x := range []struct {
		s    api.Scheme
		want string
	}{
		{api.Scheme{Funs: []api.Fun{{Name: "s", Body: fun(0)}}}, "fun s : o = s\n"},
		{withSymbols(api.Symbol{Name: "s", Rank: 4}, api.Symbol{Name: "t_0"}), "symbol s 4\nsymbol t_0 0\nfun s : o = s\n"},
		{start(sym(1, sym(2))), head + "fun f0 : o = #b #c\n"},
		{start(sym(0, sym(1, sym(1, sym(2))), sym(2))), head + "fun f0 : o = #a (#b (#b #c)) #c\n"},
		{body(to(to(o), o), v(0, v(0, v(1)))), head + "fun f0 : o = #c\nfun f1 : (o > o) > o > o = $0 ($0 $1)\n"},
		{sumsNamed("s", "f"), sums},
		{
			of(api.Fun{Body: fun(1, fun(2, sym(2)))}, api.Fun{Sort: to(to(o)), Body: v(0, fun(0))}, api.Fun{Sort: to(o, o), Body: v(1)}),
			head + "fun f0 : o = f1 (f2 #c)\nfun f1 : (o > o) > o = $0 f0\nfun f2 : o > o > o = $1\n",
		},
	} {
		if y, e := Put(x.s); y != x.want || e != api.OK {
			t.Error(x.want, y, e)
		}
		if s, e := Get(x.want); !Same(s, x.s) || e != api.OK {
			t.Error(x.want, text(s), e)
		}
	}
}

// ofSize makes a valid scheme whose string has size bytes, which is some 64K.
func ofSize(size int) api.Scheme {
	long := func(end string) string { return strings.Repeat("x", api.MaxName-len(end)) + end }
	s := api.Scheme{Syms: abc()}
	for i := range s.Syms {
		s.Syms[i].Name = long(s.Syms[i].Name)
	}
	for i := range 40 {
		s.Funs = append(s.Funs, api.Fun{Name: "f" + strconv.Itoa(i), Body: sym(2)})
	}
	var more [401]int // bytes of a body of that many nodes beyond those of a body of one
	for n := range 400 {
		more[n+1] = len(termText(s, bush(n+1))) - len(termText(s, bush(1)))
	}
	left := size - len(text(s))
	for i := range s.Funs {
		n := 400
		for more[n] > left {
			n--
		}
		s.Funs[i].Body = bush(n)
		left -= more[n]
	}
	for i := range s.Funs { // none of the functions is called: their names stand in the string once
		room := min(left, api.MaxName-len(s.Funs[i].Name))
		s.Funs[i].Name += strings.Repeat("_", room)
		left -= room
	}
	return s
}

func TestTextsAtTheLimit(t *testing.T) {
	for _, size := range []int{api.MaxText - 1, api.MaxText, api.MaxText + 1, api.MaxText + 100} {
		s := ofSize(size)
		want := text(s)
		if len(want) != size || Check(s) != api.OK {
			t.Fatal(size, len(want))
		}
		x, e := Put(s)
		y, f := Get(want)
		if size > api.MaxText {
			if x != "" || e != api.ErrLimit || !isZero(y) || f != api.ErrLimit {
				t.Error(size, len(x), e, f)
			}
		} else if x != want || e != api.OK || !Same(s, y) || f != api.OK {
			t.Error(size, len(x), e, f)
		}
	}
	huge := functions(64)
	for i := range huge.Funs {
		huge.Funs[i].Body = bush(400)
	}
	if x, e := Put(huge); x != "" || e != api.ErrLimit {
		t.Error(len(x), e)
	}
	for _, x := range []string{strings.Repeat("x", api.MaxText+1), sums + strings.Repeat("\n", api.MaxText), strings.Repeat("(", 1<<20)} {
		if s, e := Get(x); !isZero(s) || e != api.ErrLimit {
			t.Error(len(x), e)
		}
	}
}

func TestGetOfTextsThatAreNoStrings(t *testing.T) {
	for _, x := range []string{
		"\n", " ", "x", "fun", "fun ", "symbol", "symbol ", "fun\n", "symbol\n", "fun s\n", "fun s : o\n", "fun s : o = \n", "fun s : o =\n",
		"fun s : o = s", "fun s : o = s\r\n", "fun s : o = s\n\n", "\nfun s : o = s\n", " fun s : o = s\n", "fun s : o = s \n", "fun s : o = s\nx",
		"fun  s : o = s\n", "fun s  : o = s\n", "fun s :  o = s\n", "fun s : o  = s\n", "fun s : o =  s\n", "fun s: o = s\n", "fun s :o = s\n",
		"fun s : o= s\n", "fun s : o =s\n", "fun s = s\n", "fun s : = s\n", "fun s :  = s\n", "fun : o = s\n", "fun s : o : o = s\n", "fun s : o = s = s\n",
		"Fun s : o = s\n", "fun S : o = S\n", "fun 0 : o = 0\n", "fun _ : o = _\n", "fun é : o = é\n", "fun s\x00 : o = s\n", "fun s$ : o = s\n",
		"fun a" + strings.Repeat("a", 24) + " : o = a" + strings.Repeat("a", 24) + "\n",
		"fun s : o = a" + strings.Repeat("a", 24) + "\n",
		"fun s : (o) = s\n", "fun s : x = s\n", "fun s : o>o = s\n", "fun s : o > = s\n", "fun s : (o > o) = s\n", "fun s : ((o > o) > o = s\n",
		"fun s : o = t\n", "fun s : o = #s\n", "symbol c 0\nfun s : o = c\n", "fun s : o = s t\n", "fun s : o = s (s t)\n", "fun s : o = S\n",
		"fun s : o = (s)\n", "fun s : o = (s s)\n", "fun s : o = s (s)\n", "fun s : o = s ((s s))\n", "fun s : o = (s s) s\n", "fun s : o = s (s s\n", "fun s : o = s s)\n",
		"fun s : o = s ()\n", "fun s : o = ()\n", "fun s : o = s (s s))\n", "fun s : o = s(s s)\n", "fun s : o = s (s s)s\n", "fun s : o = s (s s) \n", "fun s : o = s ( s s)\n",
		"fun s : o = s (s s )\n", "fun s : o = s  s\n", "fun s : o = s\ts\n", "fun s : o = ss\n", "fun s : o = s#s\n", "fun s : o = s$0\n", "fun s : o = s,s\n",
		"fun s : o = $\n", "fun s : o = #\n", "fun s : o = $s\n", "fun s : o = $00\n", "fun s : o = $01\n", "fun s : o = $-1\n", "fun s : o = $+1\n", "fun s : o = $ 0\n",
		"fun s : o = $0x0\n", "fun s : o = $0s\n", "fun s : o = $1000000001\n", "fun s : o = $9999999999\n", "fun s : o = $18446744073709551616\n", "fun s : o = $0$0\n",
		"symbol c 0\nfun s : o = # c\n", "symbol c 0\nfun s : o = ##c\n", "symbol c 0\nfun s : o = #0\n", "symbol c 0\nfun s : o = #C\n", "symbol c 0\nfun s : o = #d\n",
		"symbol S 0\n", "symbol 0 0\n", "symbol  0\n", "symbol c\n", "symbol c \n", "symbol c 0", "symbol c 0 \n", "symbol c  0\n", " symbol c 0\n", "symbol c 00\n", "symbol c 01\n",
		"symbol c -1\n", "symbol c +1\n", "symbol c x\n", "symbol c 1000000001\n", "symbol c 99999999999999999999\n", "symbol c 0\n\n", "symbol c 0\r\n", "symbol c 0 0\n",
		"symbol c" + strings.Repeat("c", 24) + " 0\n", "symbol c 0 symbol d 0\n", "fun s : o = s\nsymbol c 0\n", "fun s : o = s\nsymbol c 0\nfun t : o = s\n",
		"symbol c 5\nfun s : o = t\n", "fun s : o > o = t\n", "fun s : o = $0\nfun s : x = s\n", // not a scheme, but no string either
		"fun s : o > o > o > o > o > o > o > o > o > o = t\n", "fun s : o > o > o > o > o > o > o > o > o > o = s\nx",
		"fun s : o = s" + strings.Repeat(" (s", 1000) + strings.Repeat(")", 999) + "\n",
		"fun s : o = s" + strings.Repeat(" (s", 20000) + "\n",
		"fun s : o = " + strings.Repeat("(", 60000) + "\n", strings.Repeat("fun ", api.MaxText/4), strings.Repeat("symbol ", api.MaxText/7),
	} {
		if s, e := Get(x); !isZero(s) || e != api.ErrForm {
			t.Errorf("%.60q %v", x, e)
		}
	}
}

func TestGetOfSchemesThatAreNotValid(t *testing.T) {
	for name, s := range wrongSchemes() {
		if name == "nodes without end" || name == "many functions" {
			continue // a string without end, and functions without names
		}
		x := text(s)
		want := api.ErrScheme
		if len(x) > api.MaxText {
			want = api.ErrLimit
		} else if !isString(x) {
			want = api.ErrForm
		}
		if y, e := Get(x); !isZero(y) || e != want {
			t.Error(name, e, want)
		}
	}
	for _, x := range []string{
		"", "symbol c 0\n", "fun s : o = $0\n", "fun s : o = $1000000000\n", "symbol c 1000000000\nfun s : o = s\n", "symbol c 5\nfun s : o = s\n",
		"symbol c 0\nsymbol c 0\nfun s : o = #c\n", "symbol c 1\nsymbol c 0\nfun s : o = #c\n", "fun s : o = s\nfun s : o = s\n", "fun s : o = s\nfun t : o = t\nfun t : o = s\n",
		"fun s : o > o = $0\n", "fun s : o = s s\n", "fun s : o = s (s (s s)) $3\n", "symbol c 0\nfun s : o = #c #c\n", "fun s : o = f\nfun f : o > o = $0\n",
		"fun s : o = s\nfun f : o > o > o > o > o > o > o > o > o > o = s\n",
		"fun s : o > o > o > o > o > o > o > o > o > o = s\n",
		"fun s : o = s\nfun f : o > o > o > o > o > o > o > o > o > o = s\nfun g : o = s\n",
		"fun s : o = s\nfun f : " + strings.Repeat("(", 29) + "o > o" + strings.Repeat(") > o", 29) + " = s\n",
		"fun s : o = s\nfun f : " + strings.Repeat("o > ", 10000) + "o = s\n",
		"fun s : o = s\nfun f : " + strings.Repeat("(", 10000) + "o > o" + strings.Repeat(") > o", 10000) + " = s\n",
		"fun s : o = s" + strings.Repeat(" (s", 10000) + " s" + strings.Repeat(")", 10000) + "\n",
		"fun s : o = s" + strings.Repeat(" s", 30000) + "\n",
		strings.Repeat("fun s : o = s\n", 4000), strings.Repeat("symbol c 0\n", 5000), strings.Repeat("symbol c 0\n", 25) + "fun s : o = #c\n",
	} {
		if s, e := Get(x); !isZero(s) || e != api.ErrScheme {
			t.Errorf("%.60q %v", x, e)
		}
	}
}

func TestGetOfNamesThatAreThereTwice(t *testing.T) {
	// Whichever is meant, the scheme is not valid; that the name is found decides between both errors.
	for x, want := range map[string]api.Errno{
		"fun s : o = t\nfun t : o = s\nfun t : o = s\n": api.ErrScheme,
		"fun s : o = u\nfun t : o = s\nfun t : o = s\n": api.ErrForm,
	} {
		if s, e := Get(x); !isZero(s) || e != want {
			t.Error(x, e)
		}
	}
	r := reader{syms: numbers([]string{"a", "b", "a", "c", "b"}, func(s string) string { return s })}
	if len(r.syms) != 3 || r.syms["a"] != 0 || r.syms["b"] != 1 || r.syms["c"] != 3 {
		t.Error(r.syms)
	}
}

const nameForm = `[a-z][a-z0-9_]{0,23}`

// isString reports whether x is a string of symbols, sorts and terms; it folds brackets from the inside out.
func isString(x string) bool {
	whole := regexp.MustCompile(`^(symbol ` + nameForm + ` (0|[1-9][0-9]*)\n)*(fun ` + nameForm + ` : [o>() ]+ = [^\n]+\n)*$`)
	if !whole.MatchString(x) {
		return false
	}
	names := map[string]bool{}
	for _, l := range regexp.MustCompile(`(?m)^(symbol|fun) (\w+)(?: ([0-9]+)$)?`).FindAllStringSubmatch(x, -1) {
		if l[1] == "symbol" {
			names["#"+l[2]] = true
			if !isNumber(l[3]) {
				return false
			}
		} else {
			names[l[2]] = true
		}
	}
	for _, l := range regexp.MustCompile(`(?m)^fun \w+ : ([o>() ]+) = (.+)$`).FindAllStringSubmatch(x, -1) {
		if _, e := sorts.Get(l[1]); e == api.ErrForm || !isTerm(l[2], names) {
			return false
		}
	}
	return true
}

func isNumber(x string) bool {
	n, e := strconv.ParseInt(x, 10, 64)
	return e == nil && n >= 0 && n <= 1e9 && strconv.FormatInt(n, 10) == x
}

func isTerm(x string, names map[string]bool) bool {
	for _, h := range regexp.MustCompile(`[^() ]+`).FindAllString(x, -1) {
		number, variable := strings.CutPrefix(h, "$")
		if variable && !isNumber(number) || !variable && !names[h] {
			return false
		}
	}
	inner := regexp.MustCompile(`\([^() ]+( [^() ]+)+\)`)
	for inner.MatchString(x) {
		x = inner.ReplaceAllString(x, "!")
		if regexp.MustCompile(`!!|[^( ]!|![^) ]|(^|\()!`).MatchString(x) { // what is in brackets is an argument
			return false
		}
	}
	return regexp.MustCompile(`^[^() ]+( [^() ]+)*$`).MatchString(x)
}

func TestGetOfChangedStrings(t *testing.T) {
	check := func(x string) {
		s, e := Get(x)
		if e == api.OK {
			if !isString(x) || text(s) != x {
				t.Errorf("%q was read as %q", x, text(s))
			}
			return
		}
		want := api.ErrForm
		if isString(x) {
			want = api.ErrScheme
		}
		if e != want || !isZero(s) {
			t.Errorf("%q %v, not %v", x, e, want)
		}
	}
	for _, x := range []string{sums, "symbol c 0\nfun s : o = f s\nfun f : (o > o) > o > o = $0 (f $0 $1)\n"} {
		for i := range len(x) + 1 {
			check(x[:i])
			check(x[i:])
			for _, c := range []string{"o", " ", "(", ")", "$", "#", "0", "1", "f", "c", "S", "_", "\n", ">", ":", "="} {
				check(x[:i] + c + x[i:])
				if i < len(x) {
					check(x[:i] + c + x[i+1:])
				}
			}
			if i < len(x) {
				check(x[:i] + x[i+1:])
			}
		}
	}
}

func TestGetReturnsNewMemory(t *testing.T) {
	const x = "symbol a 2\nfun s : o = #a (#a s s) (#a s s)\nfun f : (o > o) > (o > o) > o = $0 ($1 s)\nfun g : (o > o) > (o > o) > o = $0 ($1 s)\n"
	s := get(t, x)
	next := 0
	for _, f := range s.Funs { // each node is numbered where it lies, and read back
		numberAll(f.Body, &next)
	}
	next = 0
	for _, f := range s.Funs {
		numbered(t, f.Body, &next)
	}
	s = get(t, x)
	s.Funs[1].Sort.Args[0].Args[0] = to(to())
	if y := sortText(s.Funs[1].Sort); y != "((o > o) > o) > (o > o) > o" {
		t.Error(y)
	}
	if y := sortText(s.Funs[2].Sort); y != "(o > o) > (o > o) > o" {
		t.Error(y)
	}
	s.Syms[0].Name, s.Funs[0].Name = "b", "t"
	if y := text(get(t, x)); y != x {
		t.Error(y)
	}
}

func numberAll(t api.Term, next *int) {
	for i := range t.Args {
		t.Args[i].N = *next
		*next++
		numberAll(t.Args[i], next)
	}
}

func numbered(t *testing.T, x api.Term, next *int) {
	for _, y := range x.Args {
		if y.N != *next {
			t.Error("two parts of a result share memory")
		}
		*next++
		numbered(t, y, next)
	}
}

// P3.4, P8

func TestRoundTrips(t *testing.T) {
	for name, s := range samples() {
		x, e := Put(s)
		if len(text(s)) > api.MaxText {
			continue
		}
		y, f := Get(x)
		if x != text(s) || e != api.OK || !Same(s, y) || text(y) != text(s) || f != api.OK {
			t.Error(name, x, e, text(y), f)
		}
		if z, e := Put(y); z != x || e != api.OK {
			t.Error(name, z, e)
		}
	}
}
