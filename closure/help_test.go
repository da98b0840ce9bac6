package closure_test

import (
	"math/rand"
	"slices"
	"strconv"
	"testing"

	"virgation/api"
	"virgation/closure"
	"virgation/scheme"
)

// The signatures that the chapter lists.
var (
	_ func(api.Scheme) (*closure.Machine, api.Errno)    = closure.New
	_ func(*closure.Machine, int) (int, int, api.Errno) = (*closure.Machine).Go
	_ func(*closure.Machine, int) api.Errno             = (*closure.Machine).Kid
	_ func(*closure.Machine) []int                      = (*closure.Machine).Path
	_ func(*closure.Machine) *closure.Machine           = (*closure.Machine).Fork
)

// signs are the symbols that most schemes here have.
const signs = "symbol a 2\nsymbol b 1\nsymbol c 0\n"

// sums is the scheme of layer 3's example.
const sums = signs + "fun s : o = f #c\nfun f : o > o = #a $0 (f (#b $0))\n"

// eight is the sort of a function of eight trees.
const eight = "o > o > o > o > o > o > o > o > o"

// get returns the scheme of a text.
func get(t *testing.T, text string) api.Scheme {
	t.Helper()
	x, e := scheme.Get(text)
	if e != api.OK {
		t.Fatalf("%.200q: %d", text, e)
	}
	return x
}

// root returns a machine at the root of the tree of a scheme.
func root(t *testing.T, x api.Scheme) *closure.Machine {
	t.Helper()
	m, e := closure.New(x)
	if m == nil || e != api.OK {
		t.Fatal(m, e)
	}
	return m
}

// at returns a machine of the scheme of a text at a place where Go has not been called.
func at(t *testing.T, text string, path ...int) *closure.Machine {
	t.Helper()
	m := root(t, get(t, text))
	for _, i := range path {
		if _, _, e := m.Go(api.MaxSteps); e != api.OK {
			t.Fatal(path, e)
		}
		moves(t, m, i, api.OK)
	}
	return m
}

// goes checks what Go returns.
func goes(t *testing.T, m *closure.Machine, fuel, sym, steps int, err api.Errno) {
	t.Helper()
	if f, n, e := m.Go(fuel); f != sym || n != steps || e != err {
		t.Errorf("%d: %d %d %d, not %d %d %d", fuel, f, n, e, sym, steps, err)
	}
}

// moves checks what Kid returns.
func moves(t *testing.T, m *closure.Machine, i int, err api.Errno) {
	t.Helper()
	if e := m.Kid(i); e != err {
		t.Errorf("kid %d: %d, not %d", i, e, err)
	}
}

// stands checks where a machine is.
func stands(t *testing.T, m *closure.Machine, path ...int) {
	t.Helper()
	if l := m.Path(); !slices.Equal(l, path) {
		t.Errorf("%v, not %v", l, path)
	}
}

func v(n int, args ...api.Term) api.Term { return api.Term{Kind: api.KVar, N: n, Args: args} }
func f(n int, args ...api.Term) api.Term { return api.Term{Kind: api.KFun, N: n, Args: args} }
func s(n int, args ...api.Term) api.Term { return api.Term{Kind: api.KSym, N: n, Args: args} }

// of is the sort of a function with these arguments.
func of(args ...api.Sort) api.Sort { return api.Sort{Args: args} }

// many is a list of n times x.
func many[T any](n int, x T) []T {
	var out []T
	for range n {
		out = append(out, x)
	}
	return out
}

// shared has 2^n - 1 nodes, in n slices.
func shared(n int) api.Term {
	t := s(2)
	for range n - 1 {
		t = s(0, t, t)
	}
	return t
}

// powers is a scheme whose functions p0, p1, .. p19 make 2^k - 1 steps (k = 1, 2, .. 20), and then those of their argument.
func powers(start string) string {
	text := signs + "fun s : o = " + start + "\nfun p0 : o > o = $0\n"
	for i := range 19 {
		p := "p" + strconv.Itoa(i)
		text += "fun p" + strconv.Itoa(i+1) + " : o > o = " + p + " (" + p + " $0)\n"
	}
	return text
}

// numbered is a list of n symbols of a rank.
func numbered(n, rank int) []api.Symbol {
	var out []api.Symbol
	for i := range n {
		out = append(out, api.Symbol{Name: "x" + strconv.Itoa(i), Rank: rank})
	}
	return out
}

// loops is a list of n functions of the sort o, each with itself as its body.
func loops(n int) []api.Fun {
	var out []api.Fun
	for i := range n {
		out = append(out, api.Fun{Name: "f" + strconv.Itoa(i), Body: f(i)})
	}
	return out
}

// broken lists schemes that are not valid, of many kinds.
func broken() map[string]api.Scheme {
	out := map[string]api.Scheme{
		"nothing":              {},
		"no functions":         {Syms: numbered(3, 1)},
		"25 symbols":           {Syms: numbered(25, 0), Funs: loops(1)},
		"the rank 5":           {Syms: numbered(1, 5), Funs: loops(1)},
		"the rank -1":          {Syms: numbered(1, -1), Funs: loops(1)},
		"65 functions":         {Funs: loops(65)},
		"same symbols":         {Syms: []api.Symbol{{Name: "a"}, {Name: "a"}}, Funs: loops(1)},
		"same functions":       {Funs: append(loops(2), loops(1)...)},
		"no name":              {Funs: []api.Fun{{Body: f(0)}}},
		"a symbol without one": {Syms: []api.Symbol{{}}, Funs: loops(1)},
		"a start of o > o":     {Funs: []api.Fun{{Name: "s", Sort: of(of()), Body: v(0)}}},
		"9 arguments":          {Funs: append(loops(1), api.Fun{Name: "g", Sort: of(many(9, of())...), Body: f(0)})},
		"a wrong body":         {Funs: append(loops(1), api.Fun{Name: "g", Sort: of(of()), Body: v(1)})}, // though it is not needed
		"a body of o > o":      {Funs: append(loops(1), api.Fun{Name: "g", Sort: of(of()), Body: f(1)})},
	}
	for name, body := range map[string]api.Term{
		"a variable": v(0), "a missing function": f(1), "a missing symbol": s(0), "a kind 3": {Kind: 3}, "a kind -1": {Kind: -1}, "f -1": f(-1),
		"2^62 nodes": shared(62), "an argument too many": f(0, f(0)), "variable 2^40": v(1 << 40),
	} {
		out["a body with "+name] = api.Scheme{Funs: []api.Fun{{Name: "s", Body: body}}}
	}
	return out
}

// A typed is what a scheme is chosen from at random.
type typed struct {
	*rand.Rand
	syms         []api.Symbol
	funs, params []api.Sort
	least        int // the first function that is chosen
}

// sort is one of a few, so that terms of the sorts that functions ask for are found.
func (r typed) sort() api.Sort {
	o, unary, binary := of(), of(of()), of(of(), of())
	iterates := of(unary, o)
	pool := []api.Sort{o, unary, unary, binary, iterates, iterates, of(binary, o, o), of(iterates, unary, o), of(iterates, o), of(o, unary), of(unary, iterates, o), of(o, o, o)}
	return pool[r.Intn(len(pool))]
}

// same reports whether two sorts are equal.
func same(x, y api.Sort) bool { return slices.EqualFunc(x.Args, y.Args, same) }

// term is a term of a sort, which may have so many levels more, if one is found. Functions with arguments are preferred.
func (r typed) term(want api.Sort, levels int) (api.Term, bool) {
	var heads []api.Term
	var asks [][]api.Sort
	enter := func(kind, n, times int, sort api.Sort) {
		k := len(sort.Args) - len(want.Args)
		if k < 0 || !same(of(sort.Args[k:]...), want) || k > 0 && levels == 0 {
			return
		}
		if kind != api.KSym {
			times *= 1 + k*levels
		}
		heads = append(heads, many(times, api.Term{Kind: kind, N: n})...)
		asks = append(asks, many(times, sort.Args[:k])...)
	}
	for i, x := range r.params {
		enter(api.KVar, i, 2, x)
	}
	for i, x := range r.funs {
		if i >= r.least {
			enter(api.KFun, i, 2, x)
		}
	}
	for i, x := range r.syms {
		enter(api.KSym, i, 1, of(many(x.Rank, of())...))
	}
	if len(heads) == 0 {
		return api.Term{}, false
	}
	i := r.Intn(len(heads))
	out := heads[i]
	for _, x := range asks[i] {
		a, ok := r.term(x, levels-1)
		if !ok {
			return a, false
		}
		out.Args = append(out.Args, a)
	}
	return out, true
}

// tree is a term of the sort o over some parameters, without functions ahead of the least one.
func (r typed) tree(params []api.Sort, least, levels int) api.Term {
	r.params, r.least = params, least
	for range 20 {
		if t, ok := r.term(of(), levels); ok {
			return t
		}
	}
	return s(2)
}

// random is a valid scheme with functions of an order up to 3. In every other scheme most functions call later ones only,
// so that the symbols of its tree are found after many steps.
func random(r *rand.Rand) api.Scheme {
	for {
		ends := r.Intn(2)
		w := typed{Rand: r, syms: []api.Symbol{{Name: "a", Rank: 2}, {Name: "b", Rank: 1}, {Name: "c"}, {Name: "t", Rank: 3}}, funs: []api.Sort{of()}}
		for range 1 + r.Intn(7) {
			w.funs = append(w.funs, w.sort())
		}
		x := api.Scheme{Syms: slices.Clone(w.syms)}
		for i, sort := range w.funs {
			least := ends * (i + 1)
			if r.Intn(4) == 0 {
				least = 0
			}
			body := w.tree(sort.Args, least, 2+r.Intn(3))
			x.Funs = append(x.Funs, api.Fun{Name: "f" + strconv.Itoa(i), Sort: sort, Body: body})
		}
		if scheme.Check(x) == api.OK {
			return x
		}
	}
}
