package tree_test

import (
	"math"
	"math/rand"
	"strconv"
	"strings"
	"testing"

	"virgation/api"
	"virgation/tree"
)

// five are symbols of the ranks of wide, with names of different lengths.
func five() []api.Symbol {
	return []api.Symbol{{Name: "c"}, {Name: "b1", Rank: 1}, {Name: "a__", Rank: 2}, {Name: "t", Rank: 3}, {Name: strings.Repeat("q", 24), Rank: 4}}
}

// noSymbols lists lists that are not symbols.
func noSymbols() [][]api.Symbol {
	out := [][]api.Symbol{
		{{Name: "c"}, {Name: "c"}},
		{{Name: "a"}, {Name: "c"}, {Name: "a", Rank: 1}},
		many(1<<16, api.Symbol{Name: "c"}),
	}
	var l []api.Symbol
	for i := range 25 {
		l = append(l, api.Symbol{Name: "c" + strconv.Itoa(i)})
	}
	out = append(out, l)
	for _, name := range []string{"", "_", "_c", "0", "0c", "C", "c d", " c", "c ", "c,", "c(", "c\n", "\u00e4", strings.Repeat("c", 25), strings.Repeat("c", 1<<20)} {
		out = append(out, []api.Symbol{{Name: "c"}, {Name: name}}, []api.Symbol{{Name: name}})
	}
	for _, rank := range []int{-1, 5, 6, 1 << 32, -1 << 32, math.MaxInt, math.MinInt} {
		out = append(out, []api.Symbol{{Name: "c"}, {Name: "d", Rank: rank}})
	}
	return out
}

// fails checks that Get returns this error for text, and no tree with it.
func fails(t *testing.T, syms []api.Symbol, text string, want api.Errno) {
	t.Helper()
	x, e := tree.Get(syms, text)
	if face(x) != "0" || e != want {
		t.Errorf("%.80q (%d bytes): %.80s %d, not %d", text, len(text), face(x), e, want)
	}
}

// reads checks that text is the string of a tree.
func reads(t *testing.T, syms []api.Symbol, text string, want api.Tree) {
	t.Helper()
	if x, e := tree.Get(syms, text); face(x) != face(want) || e != api.OK {
		t.Errorf("%.80q (%d bytes): %.80s %d", text, len(text), face(x), e)
	}
	if y, e := tree.Put(syms, want); y != text || e != api.OK {
		t.Errorf("%.80s: %.80q %d", face(want), y, e)
	}
}

// P6.4 and P6.7 of some trees.
func TestStrings(t *testing.T) {
	for text, x := range map[string]api.Tree{
		"_": u(), "c": n(0), "b1(_)": n(1, u()), "b1(c)": n(1, n(0)), "a__(c,_)": n(2, n(0), u()), "t(_,c,b1(_))": n(3, u(), n(0), n(1, u())),
		strings.Repeat("q", 24) + "(_,_,c,_)":                 n(4, u(), u(), n(0), u()),
		"a__(b1(a__(_,_)),t(c,c,a__(_,c)))":                   n(2, n(1, n(2, u(), u())), n(3, n(0), n(0), n(2, u(), n(0)))),
		"b1(b1(b1(b1(b1(b1(b1(b1(_))))))))":                   chain(9, u()),
		"b1(a__(" + strings.Repeat("q", 24) + "(c,c,c,c),c))": n(1, n(2, n(4, n(0), n(0), n(0), n(0)), n(0))),
	} {
		reads(t, five(), text, x)
	}
	for _, x := range upTo(6, ranks()) {
		reads(t, signs(), spelt(signs(), x), x)
	}
	r := rand.New(rand.NewSource(67))
	for range 100 {
		x := any4(r, 6, true)
		reads(t, five(), spelt(five(), x), x)
	}
	alike := []api.Symbol{{Name: "a", Rank: 1}, {Name: "a_", Rank: 2}, {Name: "a__"}, {Name: "aa"}, {Name: "a0", Rank: 1}}
	reads(t, alike, "a(a_(a__,a0(aa)))", n(0, n(1, n(2), n(4, n(3)))))
	reads(t, alike, "a0(_)", n(4, u()))
	reads(t, nil, "_", u())
	fails(t, nil, "c", api.ErrForm)
	if x, e := tree.Put(nil, n(0)); x != "" || e != api.ErrTree {
		t.Error(x, e)
	}
}

// P6.4: what is not the string of a tree of these symbols.
func TestGetForm(t *testing.T) {
	for _, text := range []string{
		"", " ", "d", "C", "_c", "c_", "__", "c ", " c", "c\n", "_\n", "c,", ",c", "c,c", "c()", "_()", "c(c)", "c(_)", "_(_)", "(c)", "(_)", "()", "(", ")", ",",
		"b", "b()", "b(", "b(c", "b(c,", "b(c,c)", "b(c))", "b(c)c", "b(c),", "b(c)(c)", "b (c)", "b( c)", "b(c )", "b((c))", "b[c]", "b_", "bc", "b(,)", "b(,c)", "b(c,)",
		"a", "a()", "a(c)", "a(c,)", "a(,c)", "a(,)", "a(c,c,c)", "a(c c)", "a(c, c)", "a(c ,c)", "a(c;c)", "a(c,c", "a(c,c))", "a(c(c),c)", "a(c,b)", "a(b,c)", "a(cc)", "a(c)(c)", "a(c),c",
		"a(__)", "a(_ _)", "a(_,_,_)", "#c", "$0", "-1", "2", "c\x00", "\x00", "\u00e4", "b(\u0441)", "c#", strings.Repeat("c", 25), strings.Repeat("c", 1000), "b(" + strings.Repeat("c", 24) + ")",
	} {
		fails(t, signs(), text, api.ErrForm)
	}
	for _, text := range []string{"_ ", "c", "a(_,_)", "b(_)", "_("} { // other symbols
		fails(t, []api.Symbol{{Name: "a", Rank: 1}, {Name: "b", Rank: 2}}, text, api.ErrForm)
	}
}

// Every text of at most seven words is read if and only if it is the string of a tree.
func TestGetAll(t *testing.T) {
	known := map[string]string{}
	for _, x := range upTo(7, ranks()) {
		known[spelt(signs(), x)] = face(x)
	}
	met := 0
	var visit func(text string, left int)
	visit = func(text string, left int) {
		x, e := tree.Get(signs(), text)
		want, ok := known[text]
		if ok && (e != api.OK || face(x) != want) || !ok && (e != api.ErrForm || face(x) != "0") {
			t.Fatalf("%q: %s %d", text, face(x), e)
		}
		if ok {
			met++
		}
		if left == 0 {
			return
		}
		for _, word := range []string{"a", "b", "c", "_", "(", ")", ","} {
			visit(text+word, left-1)
		}
	}
	visit("", 7)
	if met != 10 {
		t.Error(met)
	}
}

// A text in which one byte is put in, taken out or changed is read if and only if it is the string of a tree.
func TestGetChanged(t *testing.T) {
	known := map[string]string{}
	for _, x := range upTo(7, ranks()) {
		known[spelt(signs(), x)] = face(x)
	}
	try := func(text string) {
		x, e := tree.Get(signs(), text)
		want, ok := known[text]
		if ok && (e != api.OK || face(x) != want) || !ok && e != api.ErrForm {
			t.Errorf("%q: %s %d", text, face(x), e)
		}
	}
	for _, x := range upTo(5, ranks()) {
		text := spelt(signs(), x)
		for i := range len(text) + 1 {
			for _, c := range "abc_(),d0 A\n" {
				try(text[:i] + string(c) + text[i:])
				if i < len(text) {
					try(text[:i] + string(c) + text[i+1:])
				}
			}
			if i < len(text) {
				try(text[:i] + text[i+1:])
			}
		}
	}
}

// P6.4: trees that are too large for a tree are told from what is no tree's string.
func TestGetLarge(t *testing.T) {
	syms := []api.Symbol{{Name: "c"}, {Name: "b", Rank: 1}, {Name: "a", Rank: 2}, {Name: "t", Rank: 3}, {Name: "q", Rank: 4}}
	for name, x := range map[string]api.Tree{
		"20001 nodes": bushy(api.MaxTree+1, u()), "20001 nodes, c": bushy(api.MaxTree+1, n(0)), "201 levels": chain(api.MaxHigh+1, u()), "201 levels, c": chain(api.MaxHigh+1, n(0)),
		"21840 levels": chain(21840, n(0)), "both": n(2, chain(300, u()), bushy(20000, n(0))), "one more": n(1, full(u())), "26000 nodes": bushy(26000, u()),
	} {
		text := spelt(syms, x)
		if len(text) > api.MaxText-10 {
			t.Fatal(name, len(text))
		}
		fails(t, syms, text, api.ErrTree)
		fails(t, syms, text+" ", api.ErrForm)
		fails(t, syms, text+")", api.ErrForm)
		fails(t, syms, text+",c", api.ErrForm)
		fails(t, syms, "b("+text, api.ErrForm)
		fails(t, syms, "b("+text+",c)", api.ErrForm)
		fails(t, syms, text[:len(text)-1], api.ErrForm)
		fails(t, syms, "a("+text+",d)", api.ErrForm)
	}
	for _, x := range fine() {
		reads(t, syms, spelt(syms, x), x)
	}
}

// names are symbols of which three leaves have names of different lengths.
func names() []api.Symbol {
	return []api.Symbol{{Name: "c"}, {Name: "b", Rank: 1}, {Name: "a", Rank: 2}, {Name: "t", Rank: 3}, {Name: "q", Rank: 4}, {Name: "cc"}, {Name: strings.Repeat("c", 24)}}
}

// lengthy is a tree over names whose string has that many bytes.
func lengthy(bytes int) api.Tree {
	x := bushy(8001, n(0))
	left := bytes - len(spelt(names(), x))
	long, short := left/23, left%23
	var change func(t api.Tree) api.Tree
	change = func(t api.Tree) api.Tree {
		if t.Sym == 0 && long > 0 {
			long--
			return n(6)
		}
		if t.Sym == 0 && short > 0 {
			short--
			return n(5)
		}
		for i := range t.Kids {
			t.Kids[i] = change(t.Kids[i])
		}
		return t
	}
	return change(x)
}

// P6.4: a string, and a text, has at most MaxText bytes.
func TestLimits(t *testing.T) {
	for _, bytes := range []int{api.MaxText - 30, api.MaxText - 1, api.MaxText, api.MaxText + 1, api.MaxText + 2, api.MaxText + 30} {
		x := lengthy(bytes)
		text := spelt(names(), x)
		if len(text) != bytes || tree.Check([]int{0, 1, 2, 3, 4, 0, 0}, x) != api.OK {
			t.Fatal(bytes, len(text))
		}
		if bytes <= api.MaxText {
			reads(t, names(), text, x)
			continue
		}
		fails(t, names(), text, api.ErrLimit)
		if y, e := tree.Put(names(), x); y != "" || e != api.ErrLimit {
			t.Errorf("%d: %.80q %d", bytes, y, e)
		}
	}
	long := []api.Symbol{{Name: strings.Repeat("c", 24)}, {Name: "b", Rank: 1}, {Name: "a", Rank: 2}, {Name: "t", Rank: 3}, {Name: strings.Repeat("q", 24), Rank: 4}}
	if y, e := tree.Put(long, bushy(api.MaxTree, n(0))); y != "" || e != api.ErrLimit {
		t.Error(len(y), e)
	}
	fails(t, five(), strings.Repeat("(", api.MaxText), api.ErrForm)
	fails(t, five(), strings.Repeat("(", api.MaxText+1), api.ErrLimit)
	fails(t, five(), strings.Repeat("c", api.MaxText), api.ErrForm)
	fails(t, five(), strings.Repeat("c", api.MaxText+1), api.ErrLimit)
	fails(t, five(), strings.Repeat("b1(", api.MaxText/3), api.ErrForm)
	fails(t, five(), strings.Repeat("a__(c,", api.MaxText/6), api.ErrForm)
	fails(t, five(), strings.Repeat(" ", 1<<22), api.ErrLimit)
	fails(t, nil, strings.Repeat("_", api.MaxText), api.ErrForm)
	fails(t, nil, strings.Repeat("_", api.MaxText+1), api.ErrLimit)
}

// P6.4: the order of errors.
func TestTextErrors(t *testing.T) {
	for _, l := range noSymbols() {
		for _, text := range []string{"", "_", "c", "(", strings.Repeat("c", api.MaxText+1)} {
			fails(t, l, text, api.ErrArg)
		}
		for _, x := range []api.Tree{u(), n(0), n(-2), n(1), shared(62), bushy(api.MaxTree, n(0))} {
			if y, e := tree.Put(l, x); y != "" || e != api.ErrArg {
				t.Errorf("%.80s: %.80q %d", short(x), y, e)
			}
		}
	}
	for name, x := range broken() {
		for i, y := range everywhere(x) {
			if z, e := tree.Put(five(), y); z != "" || e != api.ErrTree {
				t.Errorf("%s, %d: %.80q %d", name, i, z, e)
			}
		}
	}
	most := many(24, api.Symbol{})
	for i := range most {
		most[i] = api.Symbol{Name: strings.Repeat("x", 22) + strconv.Itoa(10+i), Rank: i % 5}
	}
	x := n(24-1, n(20), u(), n(15))
	reads(t, most, spelt(most, x), x)
}
