package scheme_test

import (
	"maps"
	"regexp"
	"strconv"
	"strings"
	"testing"

	"virgation/api"
	"virgation/scheme"
	"virgation/sorts"
)

// fails checks that Get returns this error for text, and no scheme with it.
func fails(t *testing.T, text string, want api.Errno) {
	t.Helper()
	x, e := scheme.Get(text)
	if e != want || face(x) != "" {
		t.Errorf("%.200q (%d bytes): %d, not %d", text, len(text), e, want)
	}
}

// spelt is the string of any scheme, valid or not, whose heads have names.
func spelt(x api.Scheme) string {
	var out strings.Builder
	for _, y := range x.Syms {
		out.WriteString("symbol " + y.Name + " " + strconv.Itoa(y.Rank) + "\n")
	}
	for _, y := range x.Funs {
		out.WriteString("fun " + y.Name + " : " + speltSort(y.Sort) + " = " + speltTerm(x, y.Body) + "\n")
	}
	return out.String()
}

func speltSort(x api.Sort) string {
	out := ""
	for _, a := range x.Args {
		if len(a.Args) > 0 {
			out += "(" + speltSort(a) + ") > "
		} else {
			out += "o > "
		}
	}
	return out + "o"
}

func speltTerm(x api.Scheme, t api.Term) string {
	out := ""
	switch t.Kind {
	case api.KVar:
		out = "$" + strconv.Itoa(t.N)
	case api.KFun:
		out = x.Funs[t.N].Name
	case api.KSym:
		out = "#" + x.Syms[t.N].Name
	}
	for _, a := range t.Args {
		if len(a.Args) > 0 {
			out += " (" + speltTerm(x, a) + ")"
		} else {
			out += " " + speltTerm(x, a)
		}
	}
	return out
}

// A grammar tells by regular expressions which texts are strings of symbols, sorts and terms.
type grammar struct {
	symbol, fun, word, inner, close, term *regexp.Regexp
}

func newGrammar() grammar {
	number := `(?:0|[1-9][0-9]{0,8}|1000000000)`
	name := `[a-z][a-z0-9_]{0,23}`
	word := `(?:\$` + number + `|#?` + name + `)`
	return grammar{
		symbol: regexp.MustCompile(`^symbol (` + name + `) ` + number + `$`),
		fun:    regexp.MustCompile(`^fun (` + name + `) : ([o()> ]*) = (.*)$`),
		word:   regexp.MustCompile(`#?[a-z][a-z0-9_]*`),
		inner:  regexp.MustCompile(`\(` + word + `(?: ` + word + `)+\)`),
		close:  regexp.MustCompile(`[^ ]\x00|\x00[^ )]`),
		term:   regexp.MustCompile(`^` + word + `(?: ` + word + `)*$`),
	}
}

// holds reports whether text has the right form.
func (g grammar) holds(text string) bool {
	if text != "" && !strings.HasSuffix(text, "\n") {
		return false
	}
	names := map[string]bool{}
	var bodies []string
	for _, line := range strings.SplitAfter(text, "\n") {
		line = strings.TrimSuffix(line, "\n")
		if m := g.symbol.FindStringSubmatch(line); m != nil && len(bodies) == 0 {
			names["#"+m[1]] = true
		} else if m := g.fun.FindStringSubmatch(line); m != nil {
			if _, e := sorts.Get(m[2]); e == api.ErrForm {
				return false
			}
			names[m[1]] = true
			bodies = append(bodies, m[3])
		} else if line != "" {
			return false
		}
	}
	if strings.HasPrefix(text, "\n") || strings.Contains(text, "\n\n") {
		return false
	}
	for _, body := range bodies {
		if !g.body(body, names) {
			return false
		}
	}
	return true
}

// body reports whether text is the string of a term with some names: what is in brackets becomes a variable, over and over.
func (g grammar) body(text string, names map[string]bool) bool {
	for _, x := range g.word.FindAllString(text, -1) {
		if !names[x] {
			return false
		}
	}
	for {
		// A word directly behind a bracket would join what replaces it.
		less := g.inner.ReplaceAllString(text, "\x00")
		if less == text {
			return g.term.MatchString(text)
		}
		if strings.HasPrefix(less, "\x00") || g.close.MatchString(less) {
			return false
		}
		text = strings.ReplaceAll(less, "\x00", "$0")
	}
}

// fits checks what Get says of a text that has at most MaxText bytes.
func (g grammar) fits(t *testing.T, text string) {
	t.Helper()
	x, e := scheme.Get(text)
	switch {
	case !g.holds(text):
		if e != api.ErrForm || face(x) != "" {
			t.Errorf("%q: %d, not ErrForm", text, e)
		}
	case e == api.OK:
		if again, e := scheme.Put(x); again != text || e != api.OK {
			t.Errorf("%q: %q %d", text, again, e)
		}
	case e != api.ErrScheme || face(x) != "":
		t.Errorf("%q: %d, not OK or ErrScheme", text, e)
	}
}

func TestPut(t *testing.T) {
	for name, x := range fine(t) {
		if text, e := scheme.Put(x); text != spelt(x) || e != api.OK {
			t.Errorf("%s: %q %d", name, text, e)
		}
	}
	for _, c := range []struct {
		x    api.Scheme
		want string
	}{
		{api.Scheme{Funs: loops(1)}, "fun f0 : o = f0\n"},
		{base(), "symbol c 0\nsymbol b 1\nsymbol a 2\nsymbol t 3\nsymbol q 4\nfun s : o = f #c\nfun f : o > o = #a $0 (g f (#b $0))\nfun g : (o > o) > o > o = $0 ($0 $1)\n"},
		{fine(t)["names alike"], "symbol s 0\nsymbol fun 0\nsymbol symbol 0\nsymbol o 1\nfun symbol : o = o #fun\nfun s : o = #s\nfun o : o > o = #o $0\n"},
	} {
		if text, e := scheme.Put(c.x); text != c.want || e != api.OK {
			t.Errorf("%q %d", text, e)
		}
	}
}

// long is a scheme whose string has so many bytes (from about 30000 on).
func long(t *testing.T, bytes int) api.Scheme {
	name := strings.Repeat("a", api.MaxName)
	x := api.Scheme{Syms: []api.Symbol{{Name: name, Rank: 4}, {Name: "c"}, {Name: "b", Rank: 1}}, Funs: []api.Fun{{Name: "s", Body: s(1)}}}
	for n := 397; n > 0; n -= 4 {
		for {
			y := x
			y.Funs = append(y.Funs[:len(y.Funs):len(y.Funs)], api.Fun{Name: "f" + strconv.Itoa(len(y.Funs)), Body: quads(n)})
			if len(spelt(y)) > bytes-100 {
				break
			}
			x = y
		}
	}
	for k := range 4 {
		// The shortest line of a function with a name of two letters has 16 bytes.
		left := bytes - len(spelt(x))
		part := (left + 3 - k) / (4 - k)
		x.Funs = append(x.Funs, api.Fun{Name: "k" + strings.Repeat(strconv.Itoa(k), part-15), Body: s(1)})
	}
	if n := len(spelt(x)); n != bytes || len(x.Funs) > api.MaxFuns {
		t.Fatal(n, len(x.Funs))
	}
	return x
}

// quads has n nodes (4k + 1), of which those with kids have the symbol 0 and the rank 4, and others the symbol 1.
func quads(n int) api.Term {
	if n == 1 {
		return s(1)
	}
	left := (n - 5) / 4
	var kids []api.Term
	for k := 4; k > 0; k-- {
		part := (left + k - 1) / k
		kids = append(kids, quads(4*part+1))
		left -= part
	}
	return s(0, kids...)
}

// A string may have MaxText bytes.
func TestLong(t *testing.T) {
	for _, n := range []int{api.MaxText - 1, api.MaxText} {
		x := long(t, n)
		text, e := scheme.Put(x)
		if len(text) != n || text != spelt(x) || e != api.OK {
			t.Errorf("%d %d, not %d", len(text), e, n)
		}
		if y, e := scheme.Get(text); !scheme.Same(x, y) || e != api.OK {
			t.Error(e)
		}
	}
	for _, n := range []int{api.MaxText + 1, api.MaxText + 2, 2 * api.MaxText} {
		x := long(t, n)
		if text, e := scheme.Put(x); text != "" || e != api.ErrLimit {
			t.Error(len(text), e)
		}
		fails(t, spelt(x), api.ErrLimit)
	}
	x := api.Scheme{Syms: long(t, api.MaxText).Syms, Funs: []api.Fun{{Name: "s", Body: s(1)}}}
	for i := range 63 {
		x.Funs = append(x.Funs, api.Fun{Name: strings.Repeat("f", 20) + strconv.Itoa(i), Body: quads(397)})
	}
	if text, e := scheme.Put(x); text != "" || e != api.ErrLimit {
		t.Error(len(text), e)
	}
}

func TestGet(t *testing.T) {
	for name, x := range fine(t) {
		if y, e := scheme.Get(spelt(x)); face(y) != face(x) || e != api.OK {
			t.Errorf("%s: %s %d", name, face(y), e)
		}
	}
	want := api.Scheme{
		Syms: []api.Symbol{{Name: "a", Rank: 2}, {Name: "b", Rank: 1}, {Name: "c"}},
		Funs: []api.Fun{{Name: "s", Body: f(1, s(2))}, {Name: "f", Sort: of(of()), Body: s(0, v(0), f(1, s(1, v(0))))}},
	}
	if x, e := scheme.Get(sums); face(x) != face(want) || e != api.OK {
		t.Error(face(x), e)
	}
}

func TestGetForm(t *testing.T) {
	g := newGrammar()
	start := "fun s : o = s\n"
	for _, text := range []string{
		"\n", " ", "s", "fun", "fun ", "symbol", "symbol ", "symbol\n", "fun\n", "\n" + start, start + "\n", start + " ", " " + start,
		"fun s : o = s", "fun s : o = s\r\n", "fun s : o = s \n", "fun s : o =  s\n", "fun s : o = \n", "fun s : o =\n", "fun s : o= s\n", "fun s :o = s\n",
		"fun s: o = s\n", "fun  s : o = s\n", "fun s  : o = s\n", "fun s :  o = s\n", "fun s : o  = s\n", "fun\ts : o = s\n", "Fun s : o = s\n", "funs : o = s\n",
		"fun s : = s\n", "fun s :  = s\n", "fun s : (o) = s\n", "fun s : o > = s\n", "fun s : o >o = s\n", "fun s : x = s\n", "fun s : o = s = s\n", "fun s = s\n",
		"fun : o = s\n", "fun S : o = S\n", "fun 1 : o = 1\n", "fun _s : o = _s\n", "fun s s : o = s\n", "fun $0 : o = $0\n", "fun #s : o = #s\n",
		"fun s : o = t\n", "fun s : o = #s\n", "fun s : o = #\n", "fun s : o = $\n", "fun s : o = $a\n", "fun s : o = $-1\n", "fun s : o = $+1\n", "fun s : o = $01\n", "fun s : o = $ 0\n", "fun s : o = # s\n", "fun s : o = $1000000001\n", "fun s : o = $4294967296\n", "fun s : o = $18446744073709551616\n",
		"fun s : o = (s)\n", "fun s : o = (s s)\n", "fun s : o = s (s)\n", "fun s : o = s ((s s))\n", "fun s : o = s (s s\n", "fun s : o = s s)\n", "fun s : o = s(s s)\n", "fun s : o = s (s s)s\n", "fun s : o = s (s s)(s s)\n", "fun s : o = s ()\n", "fun s : o = s ( s s)\n", "fun s : o = s (s s )\n", "fun s : o = (s s) s\n", "fun s : o = s  s\n", "fun s : o = s\ts\n", "fun s : o = s,s\n", "fun s : o = s\ns\n", "fun s : o = ss\n", "fun s : o = s$0\n", "fun s : o = s #s\n",
		"symbol a\n" + start, "symbol a \n" + start, "symbol a x\n" + start, "symbol a 0 \n" + start, "symbol a  0\n" + start, "symbol  a 0\n" + start, "symbol a 00\n" + start, "symbol a 01\n" + start, "symbol a -1\n" + start, "symbol a +1\n" + start, "symbol a 0x1\n" + start, "symbol a 1000000001\n" + start, "symbol a 4294967296\n" + start, "symbol a 18446744073709551617\n" + start, "symbol A 0\n" + start, "symbol #a 0\n" + start, "symbol 0\n" + start, "symbol  0\n" + start, "symbol a 0" + start, "symbols a 0\n" + start, "symbol a 0\n\n" + start,
		start + "symbol a 0\n", "symbol a 0\n" + start + "symbol b 0\n" + "fun t : o = s\n", "fun s : o = #a\nsymbol a 0\n",
		"symbol a 0\nfun s : o = a\n", "symbol s 0\nfun s : o = #s #a\n", "symbol a 0\nfun s : o = #a t\nfun u : o = s\n",
		"symbol " + strings.Repeat("a", 25) + " 0\n" + start, "fun " + strings.Repeat("a", 25) + " : o = s\n" + start,
		"fun s : o = " + strings.Repeat("s", 25) + "\n", "fun s\u00e4 : o = s\n", "fun s : o = s\x00\n",
	} {
		if g.holds(text) {
			t.Errorf("%q: the grammar of the tests is wrong", text)
		}
		fails(t, text, api.ErrForm)
	}
}

// What has the right form, but is not valid.
func TestGetInvalid(t *testing.T) {
	g := newGrammar()
	start := "fun s : o = s\n"
	for _, text := range []string{
		"", "symbol a 0\n", "symbol a 1000000000\n", "symbol a 5\n" + start, "symbol a 10\n" + start, "symbol a 1000000000\n" + start, "symbol a 0\nsymbol a 0\n" + start,
		start + start, start + "fun s : o > o = $0\n", "fun s : o = $0\n", "fun s : o = $1000000000\n", "fun s : o = $0 ($999999999 s)\n", "fun s : o > o = $0\n", "fun s : o = s s\n",
		"fun s : o = s (s s)\n", "fun s : o = f\nfun f : o > o = $0\n", "fun s : o = s\nfun f : o > o = $1\n", "fun s : o = s\nfun f : o > o = f\n",
		"fun s : " + speltSort(of(many(9, of())...)) + " = s\n", start + "fun f : " + speltSort(of(many(9, of())...)) + " = s\n", start + "fun f : " + speltSort(sortChain(31)) + " = s\n",
		start + "fun f : " + speltSort(of(many(60, of())...)) + " = s\n", start + "fun f : " + speltSort(sortShared(6)) + " = s\n" + "fun g : o = s\n",
		spelt(with(bushy(401))), spelt(with(chain(31))), spelt(with(chain(5000))), spelt(api.Scheme{Syms: numbered(25, 0), Funs: loops(1)}), spelt(api.Scheme{Funs: loops(65)}), spelt(api.Scheme{Funs: loops(2000)}),
		"fun s : o = " + strings.Repeat("s (", 10000) + "s s" + strings.Repeat(")", 10000) + "\n",
	} {
		if len(text) < 2000 && !g.holds(text) {
			t.Errorf("%.200q: the grammar of the tests is wrong", text)
		}
		fails(t, text, api.ErrScheme)
	}
	// ErrForm comes ahead of ErrScheme, wherever either stands.
	for _, text := range []string{
		"symbol a 5\nfun s : o = t\n", "fun s : " + speltSort(sortChain(31)) + " = t\n", "fun s : " + speltSort(sortChain(31)) + " = s\nfun t : (o) = s\n",
		"fun s : o = s s\nfun s : o = s", spelt(api.Scheme{Funs: loops(65)}) + "x", "fun s : o = $0\nfun t : o = u\n", "fun s : o = " + strings.Repeat("s (", 10000) + "s s" + strings.Repeat(")", 9999) + "\n",
	} {
		fails(t, text, api.ErrForm)
	}
	// Of names that are there twice the first one counts: a body that speaks of them is one of the right form.
	for _, text := range []string{"symbol a 0\nsymbol a 2\nfun s : o = #a\n", "symbol c 0\nfun s : o = f\nfun f : o = #c\nfun f : o > o = $0\n"} {
		fails(t, text, api.ErrScheme)
	}
}

func TestGetLong(t *testing.T) {
	lines := strings.Repeat("symbol a 0\n", api.MaxText/11+1)
	fails(t, lines[:len(lines)/11*11-11], api.ErrScheme)
	fails(t, lines, api.ErrLimit)
	fails(t, strings.Repeat("x", api.MaxText), api.ErrForm)
	fails(t, strings.Repeat("x", api.MaxText+1), api.ErrLimit)
	fails(t, strings.Repeat("\n", 1<<20), api.ErrLimit)
	head, tail := "fun s : o = s", " s\n"
	fill := strings.Repeat(" s", (api.MaxText-len(head)-len(tail))/2)
	fails(t, head+fill+tail, api.ErrScheme)
	fails(t, head+fill+" s"+tail, api.ErrLimit)
	fails(t, "fun s : o = s"+strings.Repeat(" (s", api.MaxText/3-10), api.ErrForm)
	fails(t, "fun s : "+strings.Repeat("(", api.MaxText-8), api.ErrForm)
	fails(t, "fun s : "+strings.Repeat("o > ", api.MaxText/4-10)+"o = s\n", api.ErrScheme)
}

// Every body of at most six words is read if and only if it is the string of a term.
func TestGetTerms(t *testing.T) {
	x := base()
	heads := []head{{api.KVar, 0}, {api.KVar, 1}, {api.KFun, 1}, {api.KSym, 0}, {api.KSym, 2}}
	words := []string{" ", "(", ")"}
	for _, h := range heads {
		words = append(words, speltTerm(x, api.Term{Kind: h.kind, N: h.n}))
	}
	known := map[string]api.Errno{}
	for _, body := range upTo(4, heads) {
		sort, ok := sortOf(x, nil, body)
		known[speltTerm(x, body)] = api.OK
		if !ok || len(sort.Args) > 0 {
			known[speltTerm(x, body)] = api.ErrScheme
		}
	}
	text := spelt(x)
	at := strings.Index(text, "f #c")
	good := 0
	var visit func(body string, left int)
	visit = func(body string, left int) {
		want, ok := known[body]
		if !ok {
			want = api.ErrForm
		}
		y, e := scheme.Get(text[:at] + body + text[at+len("f #c"):])
		if e != want || e == api.OK && spelt(y) != text[:at]+body+text[at+len("f #c"):] {
			t.Fatalf("%q: %d, not %d", body, e, want)
		}
		if e == api.OK {
			good++
		}
		if left == 0 {
			return
		}
		for _, w := range words {
			visit(body+w, left-1)
		}
	}
	visit("", 6)
	if good < 3 {
		t.Error(good)
	}
}

// A text in which one byte is put in, taken out or changed is read as the grammar says.
func TestGetChanged(t *testing.T) {
	g := newGrammar()
	for _, text := range []string{sums, "symbol a_1 4\nfun s : o = f f0 #a_1\nfun f : o > (o > o > o > o > o) > o = $1 $0 $0 (f $0 $1) s\nfun f0 : o = s\n"} {
		g.fits(t, text)
		for i := range len(text) + 1 {
			for _, c := range " \n$#(:=)>o0195absfz_A-" {
				g.fits(t, text[:i]+string(c)+text[i:])
				if i < len(text) {
					g.fits(t, text[:i]+string(c)+text[i+1:])
				}
			}
			g.fits(t, text[:i])
			if i < len(text) {
				g.fits(t, text[:i]+text[i+1:])
			}
		}
	}
}

// The lines of a text in another order, some of them left out or twice, are read as the grammar says.
func TestGetLines(t *testing.T) {
	g := newGrammar()
	lines := strings.SplitAfter(strings.TrimSuffix(sums, "\n")+"\n", "\n")[:5]
	var visit func(text string, left int)
	visit = func(text string, left int) {
		g.fits(t, text)
		if left == 0 || t.Failed() {
			return
		}
		for _, line := range lines {
			visit(text+line, left-1)
		}
	}
	visit("", 5)
}

// P3.4, and P8 for schemes and the sorts and terms in them.
func TestRoundTrips(t *testing.T) {
	l := fine(t)
	for i, x := range changed() {
		l["changed "+strconv.Itoa(i)] = x
	}
	heads := []head{{api.KVar, 0}, {api.KVar, 1}, {api.KFun, 0}, {api.KFun, 1}, {api.KFun, 2}, {api.KSym, 0}, {api.KSym, 1}, {api.KSym, 2}}
	for i, body := range upTo(4, heads) {
		x := base()
		x.Funs[2].Body = body
		if scheme.Check(x) == api.OK {
			l["body "+strconv.Itoa(i)] = x
		}
	}
	if len(l) < 100 {
		t.Error(len(l))
	}
	for name, x := range maps.All(l) {
		text, e := scheme.Put(x)
		if e != api.OK {
			t.Fatal(name, e)
		}
		y, e := scheme.Get(text)
		if e != api.OK || face(y) != face(x) || !scheme.Same(x, y) {
			t.Fatal(name, face(y), e)
		}
		if again, e := scheme.Put(y); again != text || e != api.OK {
			t.Fatal(name, again, e)
		}
	}
}
