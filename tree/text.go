package tree

import (
	"strings"

	"virgation/api"
	"virgation/scan"
)

// Put returns the string of t.
func Put(syms []api.Symbol, t api.Tree) (string, api.Errno) {
	if !scan.AreSymbols(syms) {
		return "", api.ErrArg
	}
	if e := check(ranksOf(syms), t); e != api.OK {
		return "", e
	}
	var out strings.Builder
	spell(&out, syms, t)
	if out.Len() > api.MaxText {
		return "", api.ErrLimit
	}
	return out.String(), api.OK
}

// Get returns the tree whose string is text.
func Get(syms []api.Symbol, text string) (api.Tree, api.Errno) {
	if !scan.AreSymbols(syms) {
		return api.Tree{}, api.ErrArg
	}
	if len(text) > api.MaxText {
		return api.Tree{}, api.ErrLimit
	}
	numbers := map[string]int{}
	for n, s := range syms {
		numbers[s.Name] = n
	}
	t, ok := scan.All(text, func(r *scan.Reader) api.Tree { return read(r, syms, numbers) })
	if !ok {
		return api.Tree{}, api.ErrForm
	}
	if e := check(ranksOf(syms), t); e != api.OK {
		return api.Tree{}, e
	}
	return t, api.OK
}

func ranksOf(syms []api.Symbol) []int {
	var out []int
	for _, s := range syms {
		out = append(out, s.Rank)
	}
	return out
}

// spell writes the string of a tree.
func spell(out *strings.Builder, syms []api.Symbol, t api.Tree) {
	if t.Sym == unknown {
		out.WriteString("_")
		return
	}
	out.WriteString(syms[t.Sym].Name)
	if len(t.Kids) == 0 {
		return
	}
	mark := "("
	for _, k := range t.Kids {
		out.WriteString(mark)
		spell(out, syms, k)
		mark = ","
	}
	out.WriteString(")")
}

// read reads a tree of any size.
func read(r *scan.Reader, syms []api.Symbol, numbers map[string]int) api.Tree {
	if r.Skip("_") {
		return api.Tree{Sym: unknown}
	}
	n, known := numbers[r.Name()]
	if !known {
		scan.Fail()
	}
	t := api.Tree{Sym: n}
	mark := "("
	for range syms[n].Rank {
		r.Need(mark)
		t.Kids = append(t.Kids, read(r, syms, numbers))
		mark = ","
	}
	if len(t.Kids) > 0 {
		r.Need(")")
	}
	return t
}
