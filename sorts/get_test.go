package sorts_test

import (
	"strings"
	"testing"

	"virgation/api"
	"virgation/sorts"
)

// fails checks that Get returns this error for text, and no sort with it.
func fails(t *testing.T, text string, want api.Errno) {
	t.Helper()
	s, e := sorts.Get(text)
	if e != want || len(s.Args) != 0 {
		t.Errorf("%.80q (%d bytes): %d, not %d", text, len(text), e, want)
	}
}

// spelt is the string of any sort, as the chapter describes it.
func spelt(s api.Sort) string {
	out := ""
	for _, a := range s.Args {
		x := spelt(a)
		if x != "o" {
			x = "(" + x + ")"
		}
		out += x + " > "
	}
	return out + "o"
}

func TestGet(t *testing.T) {
	for text, want := range map[string]api.Sort{
		"o":                               of(),
		"o > o":                           of(of()),
		"o > o > o":                       of(of(), of()),
		"(o > o) > o":                     of(of(of())),
		"(o > o) > o > o":                 of(of(of()), of()),
		"o > (o > o) > o":                 of(of(), of(of())),
		"((o > o) > o > o) > (o > o) > o": of(of(of(of()), of()), of(of())),
	} {
		if s, e := sorts.Get(text); face(s) != face(want) || e != api.OK {
			t.Errorf("%q: %s %d", text, face(s), e)
		}
	}
	for _, text := range []string{
		"", " ", "o ", " o", "oo", "O", "x", "0", "()", "(", ")", ">", " > ", "o >", "o > ", "o >o", "o> o", "o>o",
		"o  > o", "o >  o", "o\t> o", "o > o\n", "o > o ", " o > o", "o > > o", "o > o o", "o o", "> o", " > o",
		"(o)", "((o))", "(o) > o", "o > (o) > o", "(o > o)", "((o > o)) > o", "(o > (o)) > o", "o > (o > o)",
		"(o > o > o", "o > o) > o", "(o > o > o) o", "(o > o)> o", "(o > o)(o > o) > o", "[o > o] > o", "( o > o) > o",
		"(o > o ) > o", "(o > o) > ", "(o > o) >", "(o > ) > o", "(> o) > o", "(o > o) > (o > o)", "o -> o", "o > o\x00",
		"o > \u00f6", "\u03bf", "o\u00a0> o",
	} {
		fails(t, text, api.ErrForm)
	}
}

// What is the string of some sort, valid or not, is told from what is none.
func TestGetInvalid(t *testing.T) {
	for _, s := range []api.Sort{
		bushy(61), chain(31), of(many(9, of())...), of(of(many(9, of())...)), of(many(60, of())...), chain(200), shared(10),
	} {
		text := spelt(s)
		fails(t, text, api.ErrSort)
		fails(t, text+" ", api.ErrForm)
		fails(t, text+")", api.ErrForm)
		fails(t, text+" > ", api.ErrForm)
		fails(t, "("+text, api.ErrForm)
		fails(t, "("+text+")", api.ErrForm)
		fails(t, text[:len(text)-1], api.ErrForm)
	}
	for _, s := range []api.Sort{bushy(60), chain(30), of(many(8, of())...), of(of(many(8, of())...)), shared(5)} {
		if x, e := sorts.Get(spelt(s)); face(x) != face(s) || e != api.OK {
			t.Error(spelt(s), e)
		}
	}
}

func TestGetLong(t *testing.T) {
	wide := strings.Repeat("o > ", api.MaxText/4-1) + "o"
	fails(t, wide, api.ErrSort)
	fails(t, wide+"ooo", api.ErrForm) // MaxText bytes
	fails(t, wide+"oooo", api.ErrLimit)
	fails(t, wide+" > o", api.ErrLimit) // the string of a sort, but too long
	deep := api.MaxText / 6
	nested := strings.Repeat("(", deep-1) + "o > o" + strings.Repeat(") > o", deep-1)
	fails(t, nested, api.ErrSort)
	fails(t, "("+nested, api.ErrForm)
	fails(t, strings.Repeat("(", api.MaxText), api.ErrForm)
	fails(t, strings.Repeat(")", api.MaxText), api.ErrForm)
	fails(t, strings.Repeat("(", api.MaxText+1), api.ErrLimit)
	fails(t, strings.Repeat(" ", api.MaxText+1), api.ErrLimit)
	fails(t, strings.Repeat("o", 1<<20), api.ErrLimit)
}

// Every text of at most nine words is read if and only if it is the string of a sort.
func TestGetAll(t *testing.T) {
	known := map[string]string{}
	for _, s := range upTo(9) {
		known[spelt(s)] = face(s)
	}
	var visit func(text string, left int)
	visit = func(text string, left int) {
		s, e := sorts.Get(text)
		if want, ok := known[text]; ok && (e != api.OK || face(s) != want) || !ok && e != api.ErrForm {
			t.Errorf("%q: %s %d", text, face(s), e)
		}
		if left == 0 || t.Failed() {
			return
		}
		for _, word := range []string{"o", " > ", "(", ")"} {
			visit(text+word, left-1)
		}
	}
	visit("", 9)
}

// A text in which one byte is put in, taken out or changed is read if and only if it is the string of a sort.
func TestGetChanged(t *testing.T) {
	known := map[string]bool{}
	for _, s := range upTo(8) {
		known[spelt(s)] = true
	}
	try := func(text string) {
		s, e := sorts.Get(text)
		if known[text] && (e != api.OK || spelt(s) != text) || !known[text] && e != api.ErrForm {
			t.Errorf("%q: %d", text, e)
		}
	}
	for _, s := range upTo(6) {
		text := spelt(s)
		for i := range len(text) + 1 {
			for _, c := range "o ()>O\n," {
				try(text[:i] + string(c) + text[i:])
				if i < len(text) {
					try(text[:i] + string(c) + text[i+1:])
				}
			}
			if i < len(text) {
				try(text[:i] + text[i+1:])
			}
		}
	}
}
