package step_test

import (
	"math/rand"
	"slices"
	"strconv"
	"strings"
	"testing"

	"virgation/api"
	"virgation/scheme"
	"virgation/step"
)

// The signatures that the chapter lists.
var (
	_ func(api.Scheme, api.Term) api.Errno                       = step.Check
	_ func(api.Scheme, api.Term) (api.Term, bool, api.Errno)     = step.Step
	_ func(api.Scheme, api.Term, int) (api.Term, int, api.Errno) = step.Run
	_ func(api.Scheme, api.Term, int) ([]int, api.Errno)         = step.Heads
)

// sums is the scheme of layer 3's example.
const sums = "symbol a 2\nsymbol b 1\nsymbol c 0\nfun s : o = f #c\nfun f : o > o = #a $0 (f (#b $0))\n"

// signs are the symbols that most schemes here have.
const signs = "symbol a 2\nsymbol b 1\nsymbol c 0\n"

// get returns the scheme of a text.
func get(t *testing.T, text string) api.Scheme {
	t.Helper()
	x, e := scheme.Get(text)
	if e != api.OK {
		t.Fatalf("%.200q: %d", text, e)
	}
	return x
}

// read returns a term in the notation of layer 3, as the body of one more function of a scheme (which it then calls zz).
func read(t *testing.T, x api.Scheme, text string) api.Term {
	t.Helper()
	put, e := scheme.Put(x)
	if e != api.OK {
		t.Fatal(e)
	}
	y := get(t, put+"fun zz : o = "+text+"\n")
	return y.Funs[len(x.Funs)].Body
}

func v(n int, args ...api.Term) api.Term { return api.Term{Kind: api.KVar, N: n, Args: args} }
func f(n int, args ...api.Term) api.Term { return api.Term{Kind: api.KFun, N: n, Args: args} }
func s(n int, args ...api.Term) api.Term { return api.Term{Kind: api.KSym, N: n, Args: args} }

// of is the sort of a function with these arguments.
func of(args ...api.Sort) api.Sort { return api.Sort{Args: args} }

// many is a list of n times x.
func many[T any](n int, x T) []T {
	var out []T
	for range n {
		out = append(out, x)
	}
	return out
}

// chain has n nodes, over signs: the symbol b again and again, and c.
func chain(n int) api.Term {
	t := s(2)
	for range n - 1 {
		t = s(1, t)
	}
	return t
}

// bushy has n nodes, over signs, and few levels.
func bushy(n int) api.Term {
	switch n {
	case 1:
		return s(2)
	case 2:
		return s(1, s(2))
	}
	return s(0, bushy((n-1)/2), bushy(n-1-(n-1)/2))
}

// shared has 2^n - 1 nodes, in n slices.
func shared(n int) api.Term {
	t := s(2)
	for range n - 1 {
		t = s(0, t, t)
	}
	return t
}

// tooLarge lists terms with more than MaxSize nodes.
func tooLarge() map[string]api.Term {
	return map[string]api.Term{
		"deep":         chain(api.MaxSize + 1),
		"deeper":       chain(1 << 19),
		"bushy":        bushy(api.MaxSize + 1),
		"wide":         s(0, many(api.MaxSize, s(2))...),
		"wider":        f(9, many(1<<20, v(-1))...),
		"2^17 nodes":   shared(17),
		"2^62 nodes":   shared(62),
		"of no sort":   f(-1, v(0), chain(api.MaxSize-1)),
		"an open term": s(1, s(0, v(0), chain(api.MaxSize))),
	}
}

// face is a string of any term, by which the tests tell terms from one another.
func face(t api.Term) string {
	var out strings.Builder
	write(&out, t)
	return out.String()
}

func write(out *strings.Builder, t api.Term) {
	out.WriteString(strconv.Itoa(t.Kind) + "." + strconv.Itoa(t.N))
	for _, a := range t.Args {
		out.WriteString("(")
		write(out, a)
		out.WriteString(")")
	}
}

// sortFace is a string of any sort.
func sortFace(x api.Sort) string {
	out := "<"
	for _, a := range x.Args {
		out += sortFace(a)
	}
	return out + ">"
}

// nodes counts the nodes of a term that is not too large.
func nodes(t api.Term) int {
	n := 1
	for _, a := range t.Args {
		n += nodes(a)
	}
	return n
}

// zero reports whether t is the zero value of a term.
func zero(t api.Term) bool { return t.Kind == 0 && t.N == 0 && len(t.Args) == 0 }

// fails checks that all functions return an error, whatever the fuel, and nothing with it.
func fails(t *testing.T, name string, x api.Scheme, y api.Term, want api.Errno) {
	t.Helper()
	if e := step.Check(x, y); e != want {
		t.Errorf("%s: Check %d, not %d", name, e, want)
	}
	if z, is, e := step.Step(x, y); !zero(z) || is || e != want {
		t.Errorf("%s: Step %.80s %t %d, not %d", name, face(z), is, e, want)
	}
	for _, fuel := range []int{-1, 0, 1, api.MaxSteps, api.MaxSteps + 1} {
		fuelless(t, name, x, y, fuel, want)
	}
}

// fuelless checks that Run and Heads return an error with some fuel, and nothing with it.
func fuelless(t *testing.T, name string, x api.Scheme, y api.Term, fuel int, want api.Errno) {
	t.Helper()
	if z, n, e := step.Run(x, y, fuel); !zero(z) || n != 0 || e != want {
		t.Errorf("%s: Run, %d: %.80s %d %d, not %d", name, fuel, face(z), n, e, want)
	}
	if l, e := step.Heads(x, y, fuel); len(l) != 0 || e != want {
		t.Errorf("%s: Heads, %d: %d functions, %d, not %d", name, fuel, len(l), e, want)
	}
}

// sortOf is the sort of t in x, where the parameters have some sorts, as the document describes it.
func sortOf(x api.Scheme, params []api.Sort, t api.Term) (api.Sort, bool) {
	var h api.Sort
	switch {
	case t.Kind == api.KVar && t.N >= 0 && t.N < len(params):
		h = params[t.N]
	case t.Kind == api.KFun && t.N >= 0 && t.N < len(x.Funs):
		h = x.Funs[t.N].Sort
	case t.Kind == api.KSym && t.N >= 0 && t.N < len(x.Syms):
		h = of(many(x.Syms[t.N].Rank, of())...)
	default:
		return h, false
	}
	if len(h.Args) < len(t.Args) {
		return h, false
	}
	for i, a := range t.Args {
		if y, ok := sortOf(x, params, a); !ok || sortFace(y) != sortFace(h.Args[i]) {
			return h, false
		}
	}
	return of(h.Args[len(t.Args):]...), true
}

// replaced is t with args in the place of its variables, as the document describes it.
func replaced(t api.Term, args []api.Term) api.Term {
	var l []api.Term
	for _, a := range t.Args {
		l = append(l, replaced(a, args))
	}
	if t.Kind != api.KVar {
		return api.Term{Kind: t.Kind, N: t.N, Args: l}
	}
	a := args[t.N]
	return api.Term{Kind: a.Kind, N: a.N, Args: append(append([]api.Term{}, a.Args...), l...)}
}

// nodesAfter counts the nodes of t with args of some sizes in the place of its variables.
func nodesAfter(t api.Term, sizes []int) int {
	n := 1
	if t.Kind == api.KVar {
		n = sizes[t.N]
	}
	for _, a := range t.Args {
		n += nodesAfter(a, sizes)
	}
	return n
}

// stepped is t after one step, as the document describes it: ErrNone if t is done, ErrLimit if what follows is too large.
func stepped(x api.Scheme, t api.Term) (api.Term, api.Errno) {
	if t.Kind != api.KFun {
		return t, api.ErrNone
	}
	var sizes []int
	for _, a := range t.Args {
		sizes = append(sizes, nodes(a))
	}
	body := x.Funs[t.N].Body
	if nodesAfter(body, sizes) > api.MaxSize {
		return api.Term{}, api.ErrLimit
	}
	return replaced(body, t.Args), api.OK
}

// numbered is a list of n symbols of a rank.
func numbered(n, rank int) []api.Symbol {
	var out []api.Symbol
	for i := range n {
		out = append(out, api.Symbol{Name: "x" + strconv.Itoa(i), Rank: rank})
	}
	return out
}

// loops is a list of n functions of the sort o, each with itself as its body.
func loops(n int) []api.Fun {
	var out []api.Fun
	for i := range n {
		out = append(out, api.Fun{Name: "f" + strconv.Itoa(i), Body: f(i)})
	}
	return out
}

// broken lists schemes that are not valid, of many kinds.
func broken() map[string]api.Scheme {
	out := map[string]api.Scheme{
		"nothing":              {},
		"no functions":         {Syms: numbered(3, 1)},
		"25 symbols":           {Syms: numbered(25, 0), Funs: loops(1)},
		"the rank 5":           {Syms: numbered(1, 5), Funs: loops(1)},
		"the rank -1":          {Syms: numbered(1, -1), Funs: loops(1)},
		"65 functions":         {Funs: loops(65)},
		"same symbols":         {Syms: []api.Symbol{{Name: "a"}, {Name: "a"}}, Funs: loops(1)},
		"same functions":       {Funs: append(loops(2), loops(1)...)},
		"no name":              {Funs: []api.Fun{{Body: f(0)}}},
		"a symbol without one": {Syms: []api.Symbol{{}}, Funs: loops(1)},
		"a start of o > o":     {Funs: []api.Fun{{Name: "s", Sort: of(of()), Body: v(0)}}},
		"9 arguments":          {Funs: append(loops(1), api.Fun{Name: "g", Sort: of(many(9, of())...), Body: f(0)})},
	}
	for name, body := range map[string]api.Term{
		"a variable": v(0), "a missing function": f(1), "a missing symbol": s(0), "a kind 3": {Kind: 3}, "a kind -1": {Kind: -1}, "f -1": f(-1),
		"2^62 nodes": shared(62), "depth 2^16": chain(1 << 16), "an argument too many": f(0, f(0)),
	} {
		out["a body with "+name] = api.Scheme{Funs: []api.Fun{{Name: "s", Body: body}}}
	}
	return out
}

// A typed is what a scheme is chosen from at random.
type typed struct {
	*rand.Rand
	syms         []api.Symbol
	funs, params []api.Sort
	least        int // the first function that is chosen
}

// sort is one of a few, so that terms of the sorts that functions ask for are found.
func (r typed) sort() api.Sort {
	o, unary, binary := of(), of(of()), of(of(), of())
	iterates := of(unary, o)
	pool := []api.Sort{o, unary, unary, binary, iterates, iterates, of(binary, o, o), of(iterates, unary, o), of(iterates, o), of(o, unary), of(unary, iterates, o), of(o, o, o)}
	return pool[r.Intn(len(pool))]
}

// term is a term of a sort, which may have so many levels more, if one is found. Functions with arguments are preferred.
func (r typed) term(want api.Sort, levels int) (api.Term, bool) {
	var heads []api.Term
	var asks [][]api.Sort
	enter := func(kind, n, times int, sort api.Sort) {
		k := len(sort.Args) - len(want.Args)
		if k < 0 || sortFace(of(sort.Args[k:]...)) != sortFace(want) || k > 0 && levels == 0 {
			return
		}
		if kind != api.KSym {
			times *= 1 + k*levels
		}
		heads = append(heads, many(times, api.Term{Kind: kind, N: n})...)
		asks = append(asks, many(times, sort.Args[:k])...)
	}
	for i, x := range r.params {
		enter(api.KVar, i, 1, x)
	}
	for i, x := range r.funs {
		if i >= r.least {
			enter(api.KFun, i, 2, x)
		}
	}
	for i, x := range r.syms {
		enter(api.KSym, i, 1, of(many(x.Rank, of())...))
	}
	if len(heads) == 0 {
		return api.Term{}, false
	}
	at := r.Intn(len(heads))
	out := heads[at]
	for _, x := range asks[at] {
		a, ok := r.term(x, levels-1)
		if !ok {
			return a, false
		}
		out.Args = append(out.Args, a)
	}
	return out, true
}

// tree is a term of the sort o over some parameters, without functions ahead of the least one.
func (r typed) tree(params []api.Sort, least, levels int) api.Term {
	r.params, r.least = params, least
	for range 20 {
		if t, ok := r.term(of(), levels); ok {
			return t
		}
	}
	return s(2)
}

// closed is a closed term of the sort o.
func (r typed) closed(levels int) api.Term { return r.tree(nil, 0, levels) }

// random is a valid scheme with functions of an order up to 3, and what it was chosen from. In every other scheme functions
// call later ones only, so that its terms have an end.
func random(r *rand.Rand) (api.Scheme, typed) {
	for {
		ends := r.Intn(2)
		w := typed{Rand: r, syms: []api.Symbol{{Name: "a", Rank: 2}, {Name: "b", Rank: 1}, {Name: "c"}, {Name: "t", Rank: 3}}, funs: []api.Sort{of()}}
		for range 1 + r.Intn(7) {
			w.funs = append(w.funs, w.sort())
		}
		x := api.Scheme{Syms: slices.Clone(w.syms)}
		for i, sort := range w.funs {
			body := w.tree(sort.Args, ends*(i+1), 2+r.Intn(3))
			x.Funs = append(x.Funs, api.Fun{Name: "f" + strconv.Itoa(i), Sort: sort, Body: body})
		}
		if scheme.Check(x) == api.OK {
			return x, w
		}
	}
}
