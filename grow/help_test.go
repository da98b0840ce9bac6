package grow_test

import (
	"math/rand"
	"slices"
	"strconv"
	"testing"

	"virgation/api"
	"virgation/grow"
	"virgation/scheme"
	"virgation/step"
	"virgation/tree"
)

// The signatures that the chapter lists.
var (
	_ func(api.Scheme, int, int) (api.Tree, api.Errno)           = grow.Tree
	_ func(api.Scheme, api.Term, int, int) (api.Tree, api.Errno) = grow.From
	_ func(api.Scheme, []int, int) (int, api.Errno)              = grow.At
	_ func(api.Scheme, api.Scheme, int, int) (bool, api.Errno)   = grow.Alike
)

// signs are the symbols that most schemes here have.
const signs = "symbol a 2\nsymbol b 1\nsymbol c 0\n"

// sums is the scheme of layer 3's example.
const sums = signs + "fun s : o = f #c\nfun f : o > o = #a $0 (f (#b $0))\n"

// get returns the scheme of a text.
func get(t *testing.T, text string) api.Scheme {
	t.Helper()
	x, e := scheme.Get(text)
	if e != api.OK {
		t.Fatalf("%.200q: %d", text, e)
	}
	return x
}

// read returns a term in the notation of layer 3, as the body of one more function of a scheme (which it then calls zz).
func read(t *testing.T, x api.Scheme, text string) api.Term {
	t.Helper()
	put, e := scheme.Put(x)
	if e != api.OK {
		t.Fatal(e)
	}
	y := get(t, put+"fun zz : o = "+text+"\n")
	return y.Funs[len(x.Funs)].Body
}

func v(n int, args ...api.Term) api.Term { return api.Term{Kind: api.KVar, N: n, Args: args} }
func f(n int, args ...api.Term) api.Term { return api.Term{Kind: api.KFun, N: n, Args: args} }
func s(n int, args ...api.Term) api.Term { return api.Term{Kind: api.KSym, N: n, Args: args} }

// of is the sort of a function with these arguments.
func of(args ...api.Sort) api.Sort { return api.Sort{Args: args} }

// many is a list of n times x.
func many[T any](n int, x T) []T {
	var out []T
	for range n {
		out = append(out, x)
	}
	return out
}

// chain has n nodes, over signs: the symbol b again and again, and a leaf.
func chain(n int, leaf api.Term) api.Term {
	for range n - 1 {
		leaf = s(1, leaf)
	}
	return leaf
}

// bushy has n nodes, over signs, and few levels.
func bushy(n int, leaf api.Term) api.Term {
	switch n {
	case 1:
		return leaf
	case 2:
		return s(1, leaf)
	}
	return s(0, bushy((n-1)/2, leaf), bushy(n-1-(n-1)/2, leaf))
}

// shared has 2^n - 1 nodes, in n slices.
func shared(n int) api.Term {
	t := s(2)
	for range n - 1 {
		t = s(0, t, t)
	}
	return t
}

// face is a string of any tree, with the numbers of its symbols.
func face(t api.Tree) string {
	out := strconv.Itoa(t.Sym)
	for _, k := range t.Kids {
		out += "(" + face(k) + ")"
	}
	return out
}

// zero reports whether t is the zero value of a tree.
func zero(t api.Tree) bool { return t.Sym == 0 && len(t.Kids) == 0 }

// ranksOf lists the ranks of the symbols of a scheme.
func ranksOf(t *testing.T, x api.Scheme) []int {
	t.Helper()
	ranks, e := scheme.Ranks(x)
	if e != api.OK {
		t.Fatal(e)
	}
	return ranks
}

// grown is what a term has grown to, as the document describes it.
func grown(t *testing.T, x api.Scheme, y api.Term, depth, fuel int) api.Tree {
	t.Helper()
	if depth == 0 {
		return api.Tree{Sym: -1}
	}
	z, _, e := step.Run(x, y, fuel)
	switch e {
	case api.ErrFuel, api.ErrLimit:
		return api.Tree{Sym: -1}
	case api.OK:
		out := api.Tree{Sym: z.N}
		for _, a := range z.Args {
			out.Kids = append(out.Kids, grown(t, x, a, depth-1, fuel))
		}
		return out
	}
	t.Fatal(e)
	return api.Tree{}
}

// gives checks what a term, and the start if the term is the start, has grown to, as a string of layer 6.
func gives(t *testing.T, x api.Scheme, y api.Term, depth, fuel int, want string) {
	t.Helper()
	z, e := grow.From(x, y, depth, fuel)
	if text, g := tree.Put(x.Syms, z); text != want || e != api.OK || g != api.OK {
		t.Errorf("%d, %d: %.200s %d %d, not %.200s", depth, fuel, text, e, g, want)
	}
	if y.Kind != api.KFun || y.N != 0 {
		return
	}
	z, e = grow.Tree(x, depth, fuel)
	if text, g := tree.Put(x.Syms, z); text != want || e != api.OK || g != api.OK {
		t.Errorf("Tree, %d, %d: %.200s %d %d, not %.200s", depth, fuel, text, e, g, want)
	}
}

// fails checks that a term, and the start if the term is the start, has an error instead of a tree.
func fails(t *testing.T, x api.Scheme, y api.Term, depth, fuel int, want api.Errno) {
	t.Helper()
	if z, e := grow.From(x, y, depth, fuel); !zero(z) || e != want {
		t.Errorf("%d, %d: %.80s %d, not %d", depth, fuel, face(z), e, want)
	}
	if y.Kind != api.KFun || y.N != 0 || len(y.Args) > 0 {
		return
	}
	if z, e := grow.Tree(x, depth, fuel); !zero(z) || e != want {
		t.Errorf("Tree, %d, %d: %.80s %d, not %d", depth, fuel, face(z), e, want)
	}
}

// at checks the symbol, or the error, at the end of a path.
func at(t *testing.T, x api.Scheme, path []int, fuel, want int, err api.Errno) {
	t.Helper()
	if n, e := grow.At(x, path, fuel); n != want || e != err {
		t.Errorf("%d elements, %d: %d %d, not %d %d", len(path), fuel, n, e, want, err)
	}
}

// alike checks whether two schemes are alike, whichever comes first.
func alike(t *testing.T, x, y api.Scheme, depth, fuel int, want bool, err api.Errno) {
	t.Helper()
	if is, e := grow.Alike(x, y, depth, fuel); is != want || e != err {
		t.Errorf("%d, %d: %t %d, not %t %d", depth, fuel, is, e, want, err)
	}
	if is, e := grow.Alike(y, x, depth, fuel); is != want || e != err {
		t.Errorf("turned, %d, %d: %t %d, not %t %d", depth, fuel, is, e, want, err)
	}
}

// powers is a scheme whose functions p0, p1, .. p19 make 2^k - 1 steps (k = 1, 2, .. 20), and then those of their argument.
func powers(t *testing.T, start string) api.Scheme {
	t.Helper()
	text := signs + "fun s : o = " + start + "\nfun p0 : o > o = $0\n"
	for i := range 19 {
		p := "p" + strconv.Itoa(i)
		text += "fun p" + strconv.Itoa(i+1) + " : o > o = " + p + " (" + p + " $0)\n"
	}
	return get(t, text)
}

// numbered is a list of n symbols of a rank.
func numbered(n, rank int) []api.Symbol {
	var out []api.Symbol
	for i := range n {
		out = append(out, api.Symbol{Name: "x" + strconv.Itoa(i), Rank: rank})
	}
	return out
}

// loops is a list of n functions of the sort o, each with itself as its body.
func loops(n int) []api.Fun {
	var out []api.Fun
	for i := range n {
		out = append(out, api.Fun{Name: "f" + strconv.Itoa(i), Body: f(i)})
	}
	return out
}

// broken lists schemes that are not valid, of many kinds.
func broken() map[string]api.Scheme {
	out := map[string]api.Scheme{
		"nothing":              {},
		"no functions":         {Syms: numbered(3, 1)},
		"25 symbols":           {Syms: numbered(25, 0), Funs: loops(1)},
		"the rank 5":           {Syms: numbered(1, 5), Funs: loops(1)},
		"the rank -1":          {Syms: numbered(1, -1), Funs: loops(1)},
		"65 functions":         {Funs: loops(65)},
		"same symbols":         {Syms: []api.Symbol{{Name: "a"}, {Name: "a"}}, Funs: loops(1)},
		"same functions":       {Funs: append(loops(2), loops(1)...)},
		"a symbol without one": {Syms: []api.Symbol{{}}, Funs: loops(1)},
		"a start of o > o":     {Funs: []api.Fun{{Name: "s", Sort: of(of()), Body: v(0)}}},
	}
	for name, body := range map[string]api.Term{
		"a variable": v(0), "a missing function": f(1), "a missing symbol": s(0), "a kind 3": {Kind: 3}, "f -1": f(-1), "2^62 nodes": shared(62),
	} {
		out["a body with "+name] = api.Scheme{Funs: []api.Fun{{Name: "s", Body: body}}}
	}
	return out
}

// A typed is what a scheme is chosen from at random.
type typed struct {
	*rand.Rand
	syms         []api.Symbol
	funs, params []api.Sort
}

// sort is one of a few, so that terms of the sorts that functions ask for are found.
func (r typed) sort() api.Sort {
	o, unary, binary := of(), of(of()), of(of(), of())
	iterates := of(unary, o)
	pool := []api.Sort{o, unary, unary, binary, iterates, iterates, of(binary, o, o), of(iterates, unary, o), of(o, unary)}
	return pool[r.Intn(len(pool))]
}

// same reports whether two sorts are equal.
func same(x, y api.Sort) bool { return slices.EqualFunc(x.Args, y.Args, same) }

// term is a term of a sort, which may have so many levels more, if one is found. Functions with arguments are preferred.
func (r typed) term(want api.Sort, levels int) (api.Term, bool) {
	var heads []api.Term
	var asks [][]api.Sort
	enter := func(kind, n, times int, sort api.Sort) {
		k := len(sort.Args) - len(want.Args)
		if k < 0 || !same(of(sort.Args[k:]...), want) || k > 0 && levels == 0 {
			return
		}
		if kind != api.KSym {
			times *= 1 + k*levels
		}
		heads = append(heads, many(times, api.Term{Kind: kind, N: n})...)
		asks = append(asks, many(times, sort.Args[:k])...)
	}
	for i, x := range r.params {
		enter(api.KVar, i, 2, x)
	}
	for i, x := range r.funs {
		enter(api.KFun, i, 1, x)
	}
	for i, x := range r.syms {
		enter(api.KSym, i, 2, of(many(x.Rank, of())...))
	}
	if len(heads) == 0 {
		return api.Term{}, false
	}
	i := r.Intn(len(heads))
	out := heads[i]
	for _, x := range asks[i] {
		a, ok := r.term(x, levels-1)
		if !ok {
			return a, false
		}
		out.Args = append(out.Args, a)
	}
	return out, true
}

// body is a term of the sort o over some parameters.
func (r typed) body(params []api.Sort, levels int) api.Term {
	r.params = params
	for range 20 {
		if t, ok := r.term(of(), levels); ok {
			return t
		}
	}
	return s(2)
}

// closed is a closed term of the sort o.
func (r typed) closed(levels int) api.Term { return r.body(nil, levels) }

// random is a valid scheme with functions of an order up to 3, and what it was chosen from.
func random(r *rand.Rand) (api.Scheme, typed) {
	for {
		w := typed{Rand: r, syms: []api.Symbol{{Name: "a", Rank: 2}, {Name: "b", Rank: 1}, {Name: "c"}, {Name: "t", Rank: 3}}, funs: []api.Sort{of()}}
		for range 1 + r.Intn(6) {
			w.funs = append(w.funs, w.sort())
		}
		x := api.Scheme{Syms: slices.Clone(w.syms)}
		for i, sort := range w.funs {
			x.Funs = append(x.Funs, api.Fun{Name: "f" + strconv.Itoa(i), Sort: sort, Body: w.body(sort.Args, 2+r.Intn(3))})
		}
		if scheme.Check(x) == api.OK {
			return x, w
		}
	}
}
