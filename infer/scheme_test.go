package infer_test

import (
	"math/rand"
	"reflect"
	"slices"
	"strconv"
	"testing"

	"virgation/api"
	"virgation/infer"
	"virgation/scheme"
)

// stripped lists the functions of a scheme without their sorts.
func stripped(x api.Scheme) []infer.Loose {
	var out []infer.Loose
	for _, y := range x.Funs {
		out = append(out, infer.Loose{Name: y.Name, Params: len(y.Sort.Args), Body: y.Body})
	}
	return out
}

// made checks that Scheme makes of l a valid scheme with the sorts of Sorts, and with everything else as it is in l; or
// that both return the same error.
func made(t *testing.T, y []api.Symbol, l []infer.Loose) (api.Scheme, api.Errno) {
	t.Helper()
	x, e := infer.Scheme(y, l)
	found, f := infer.Sorts(y, l)
	if e != f {
		t.Fatal(face(l), e, f)
	}
	if e != api.OK {
		fails(t, face(l), y, l, e)
		return x, e
	}
	if scheme.Check(x) != api.OK || !slices.Equal(x.Syms, y) || face(stripped(x)) != face(l) {
		t.Fatal(face(l), face(stripped(x)), x.Syms)
	}
	for i, z := range x.Funs {
		if sortFace(z.Sort) != sortFace(found[i]) {
			t.Fatal(face(l), z.Name, sortFace(z.Sort), sortFace(found[i]))
		}
	}
	return x, e
}

// P4.3, P4.5.
func TestScheme(t *testing.T) {
	for _, l := range [][]infer.Loose{
		idle(1), idle(64), with(bushy(400)), with(chain(30)), with60(0), heir(15, 1), heir(4, 2), heir(63, 0),
		loose("s = f c", "f x = a x (f (b x))"), loose("s = n n2", "n x = x b c", "n2 x y = x (x y)"), loose("s = c", "f x y z = x z (y z)"),
		{{Name: "a", Body: s(2)}, {Name: "c", Params: 8, Body: v(7, v(0))}},
	} {
		if _, e := made(t, syms(), l); e != api.OK {
			t.Error(face(l), e)
		}
	}
	for name, l := range fine() {
		if _, e := made(t, syms(), l); e != api.OK && e != api.ErrSort && e != api.ErrLimit {
			t.Error(name, e)
		}
	}
	if _, e := made(t, nil, []infer.Loose{{Name: "s", Body: f(1, f(1))}, {Name: "f", Params: 1, Body: f(0)}}); e != api.ErrSort {
		t.Error(e)
	}
	if _, e := made(t, nil, []infer.Loose{{Name: "s", Body: f(1, f(0))}, {Name: "f", Params: 1, Body: f(0)}}); e != api.OK {
		t.Error(e)
	}
	if _, e := made(t, numbered(24, 4), []infer.Loose{{Name: "s", Body: f(1, s(23))}, {Name: "f", Params: 1, Body: v(0, many(4, f(0))...)}}); e != api.OK {
		t.Error(e)
	}
}

// The scheme of the document's example is found.
func TestExample(t *testing.T) {
	y := syms()[:3]
	x, e := infer.Scheme(y, loose("s = f c", "f x = a x (f (b x))"))
	if e != api.OK {
		t.Fatal(e)
	}
	text, e := scheme.Put(x)
	if text != "symbol a 2\nsymbol b 1\nsymbol c 0\nfun s : o = f #c\nfun f : o > o = #a $0 (f (#b $0))\n" || e != api.OK {
		t.Error(text, e)
	}
	fails(t, "f x = x x", y, loose("s = f c", "f x = x x"), api.ErrSort)
	if l, e := infer.Sorts(y, loose("s = c", "k x y = x")); sortFaces(l) != "o, o > o > o" || e != api.OK {
		t.Error(sortFaces(l), e)
	}
}

// A typed is what a scheme is chosen from at random.
type typed struct {
	*rand.Rand
	funs, params []api.Sort
}

// sort has the order n or less.
func (r typed) sort(n int) api.Sort {
	var out api.Sort
	if n > 0 {
		for range r.Intn(3) {
			out.Args = append(out.Args, r.sort(n-1))
		}
	}
	return out
}

// term is a term of a sort, which may have so many levels more, if one is found.
func (r typed) term(want api.Sort, levels int) (api.Term, bool) {
	var heads []api.Term
	var asks [][]api.Sort
	enter := func(kind, n int, sort api.Sort) {
		k := len(sort.Args) - len(want.Args)
		if k < 0 || sortFace(of(sort.Args[k:]...)) != sortFace(want) || k > 0 && levels == 0 {
			return
		}
		heads, asks = append(heads, api.Term{Kind: kind, N: n}), append(asks, sort.Args[:k])
	}
	for i, x := range r.params {
		enter(api.KVar, i, x)
		enter(api.KVar, i, x)
	}
	for i, x := range r.funs {
		enter(api.KFun, i, x)
	}
	for i, x := range syms() {
		enter(api.KSym, i, of(many(x.Rank, of())...))
	}
	if len(heads) == 0 {
		return api.Term{}, false
	}
	at := r.Intn(len(heads))
	out := heads[at]
	for _, x := range asks[at] {
		a, ok := r.term(x, levels-1)
		if !ok {
			return a, false
		}
		out.Args = append(out.Args, a)
	}
	return out, true
}

// P4.4: a scheme whose sorts are left out has an assignment, with at most its orders and nodes; P4.5: it makes a scheme.
func TestStripped(t *testing.T) {
	r := typed{Rand: rand.New(rand.NewSource(44))}
	smaller, orders := 0, 0
	for range 3000 {
		r.funs = []api.Sort{of()}
		for range r.Intn(5) {
			r.funs = append(r.funs, r.sort(3))
		}
		x := api.Scheme{Syms: syms()}
		for i, sort := range r.funs {
			r.params = sort.Args
			body, ok := r.term(of(), 5)
			if !ok {
				body = s(2)
			}
			x.Funs = append(x.Funs, api.Fun{Name: "f" + strconv.Itoa(i), Sort: sort, Body: body})
		}
		if scheme.Check(x) != api.OK {
			continue // too large
		}
		y, e := made(t, x.Syms, stripped(x))
		if e != api.OK {
			t.Fatal(face(stripped(x)), sortFaces(r.funs), e)
		}
		for i, z := range y.Funs {
			if order(z.Sort) > order(r.funs[i]) || nodes(z.Sort) > nodes(r.funs[i]) || !below(z.Sort, r.funs[i]) {
				t.Fatal(face(stripped(x)), sortFaces(r.funs), z.Name, sortFace(z.Sort))
			}
			if nodes(z.Sort) < nodes(r.funs[i]) {
				smaller++
			}
			orders = max(orders, order(z.Sort))
		}
	}
	if smaller < 100 || orders < 3 {
		t.Error(smaller, orders)
	}
}

// copied is l in new memory.
func copied(l []infer.Loose) []infer.Loose {
	var term func(x api.Term) api.Term
	term = func(x api.Term) api.Term {
		out := api.Term{Kind: x.Kind, N: x.N}
		for _, a := range x.Args {
			out.Args = append(out.Args, term(a))
		}
		return out
	}
	var out []infer.Loose
	for _, x := range l {
		out = append(out, infer.Loose{Name: x.Name, Params: x.Params, Body: term(x.Body)})
	}
	return out
}

// roomy is t, with room behind all arguments.
func roomy(t api.Term) api.Term {
	out := api.Term{Kind: t.Kind, N: t.N, Args: make([]api.Term, 0, len(t.Args)+2)}
	for _, a := range t.Args {
		out.Args = append(out.Args, roomy(a))
	}
	copy(out.Args[len(out.Args):cap(out.Args)], []api.Term{v(77), v(78)})
	return out
}

// A memory is a set of places in memory; twice tells that one was entered again.
type memory struct {
	met   map[any]bool
	twice bool
}

// enter enters the elements of a slice, and what is behind them.
func enter[T any](m *memory, l []T, in func(T)) {
	for i := range l[:cap(l)] {
		m.twice = m.twice || m.met[&l[:cap(l)][i]]
		m.met[&l[:cap(l)][i]] = true
	}
	for _, x := range l {
		in(x)
	}
}

func (m *memory) symbols(l []api.Symbol) { enter(m, l, func(api.Symbol) {}) }
func (m *memory) sort(x api.Sort)        { enter(m, x.Args, m.sort) }
func (m *memory) term(x api.Term)        { enter(m, x.Args, m.term) }
func (m *memory) loose(l []infer.Loose)  { enter(m, l, func(x infer.Loose) { m.term(x.Body) }) }
func (m *memory) function(x api.Fun)     { m.sort(x.Sort); m.term(x.Body) }
func (m *memory) scheme(x api.Scheme)    { m.symbols(x.Syms); enter(m, x.Funs, m.function) }
func (m *memory) sorts(l []api.Sort)     { enter(m, l, m.sort) }

// Rules 3 and 7: no argument is changed, and what is returned is new memory, no two slices of which are the same.
func TestMemory(t *testing.T) {
	part := s(0, f(2, s(1)), v(0, v(1))) // stands in several places
	l := []infer.Loose{
		{Name: "s", Body: f(1, s(1), s(2))},
		{Name: "f", Params: 2, Body: s(0, roomy(v(0, f(2, v(0)))), s(0, part, s(0, part, f(1, v(0), s(1, v(1))))))},
		{Name: "g", Params: 1, Body: roomy(v(0, s(2)))},
		{Name: "h", Params: 2, Body: part},
	}
	y := append(make([]api.Symbol, 0, 9), syms()...)
	y[:9][5] = api.Symbol{Name: "behind"}
	want := copied(l)
	first, e := infer.Scheme(y, l)
	found, g := infer.Sorts(y, l)
	if e != api.OK || g != api.OK || infer.Check(y, l) != api.OK {
		t.Fatal(e, g)
	}
	for _, x := range []api.Term{l[1].Body.Args[0], l[2].Body} {
		if behind := x.Args[:cap(x.Args)]; !reflect.DeepEqual(behind[len(behind)-2:], []api.Term{v(77), v(78)}) {
			t.Error(behind)
		}
	}
	if !reflect.DeepEqual(copied(l), want) || !slices.Equal(y, syms()) || y[:9][5].Name != "behind" {
		t.Error(face(l), y)
	}
	m := &memory{met: map[any]bool{}}
	m.symbols(y)
	m.loose(l)
	if !m.twice || len(m.met) < 30 {
		t.Error("the arguments should share memory", len(m.met))
	}
	m.twice = false
	m.scheme(first)
	m.sorts(found)
	if m.twice {
		t.Error("results share memory")
	}
}

// The same arguments have the same results.
func TestAgain(t *testing.T) {
	for name, l := range fine() {
		x, e := infer.Scheme(syms(), l)
		for range 3 {
			if again, f := infer.Scheme(syms(), copied(l)); !reflect.DeepEqual(x, again) || e != f {
				t.Error(name, e, f)
			}
		}
	}
}
