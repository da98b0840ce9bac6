package grow_test

import (
	"math"
	"reflect"
	"testing"

	"virgation/api"
	"virgation/grow"
	"virgation/scheme"
)

// roomy is t in new memory, with room behind all arguments, which is not empty.
func roomy(t api.Term) api.Term {
	out := api.Term{Kind: t.Kind, N: t.N, Args: make([]api.Term, 0, len(t.Args)+2)}
	for _, a := range t.Args {
		out.Args = append(out.Args, roomy(a))
	}
	copy(out.Args[len(out.Args):cap(out.Args)], []api.Term{v(77), v(78)})
	return out
}

// whole reports whether x is still y, as roomy made it.
func whole(x, y api.Term) bool {
	behind := x.Args[len(x.Args):cap(x.Args)]
	if x.Kind != y.Kind || x.N != y.N || len(x.Args) != len(y.Args) || !reflect.DeepEqual(behind, []api.Term{v(77), v(78)}) {
		return false
	}
	for i := range x.Args {
		if !whole(x.Args[i], y.Args[i]) {
			return false
		}
	}
	return true
}

// Rules 3 and 7: no argument is changed or kept, and results are new memory, no two slices of which are the same.
func TestMemory(t *testing.T) {
	x := get(t, signs+"fun s : o = #a (f #c) (#a s (#a s s))\nfun f : o > o = #a $0 (#a $0 (f (#b $0)))\n")
	y := get(t, signs+"fun s : o = #a (f #c) (#a s (#a s s))\nfun f : o > o = #a $0 (#a $0 (f (#b $0)))\n")
	for i := range x.Funs {
		x.Funs[i].Body = roomy(x.Funs[i].Body)
	}
	put, _ := scheme.Put(y)
	part := roomy(s(1, f(1, s(1, s(2)))))
	plain := s(0, part, s(0, part, f(1, part)))
	start := roomy(plain)
	met := map[*api.Tree]bool{}
	var enter func(api.Tree)
	enter = func(z api.Tree) {
		room := z.Kids[:cap(z.Kids)]
		for i := range room {
			if met[&room[i]] {
				t.Error("shared memory", face(z))
			}
			met[&room[i]] = true
		}
		for _, k := range z.Kids {
			enter(k)
		}
	}
	for range 3 {
		a, e := grow.Tree(x, 7, 3)
		b, g := grow.From(x, start, 7, 3)
		if e != api.OK || g != api.OK || face(a) != face(grown(t, y, f(0), 7, 3)) || face(b) != face(grown(t, y, plain, 7, 3)) {
			t.Error(e, g)
		}
		enter(a)
		enter(b)
		for _, z := range []api.Tree{a, b} { // what the caller does with a result changes no other
			z.Kids[0].Sym, z.Kids[1].Kids[0] = 2, api.Tree{Sym: 7}
		}
		at(t, x, []int{1, 0, 0, 1, 1}, 3, 0, api.OK)
		alike(t, x, y, 7, 3, true, api.OK)
		if now, _ := scheme.Put(x); now != put || !whole(start, plain) {
			t.Error("an argument has changed")
		}
		for i := range x.Funs {
			if !whole(x.Funs[i].Body, y.Funs[i].Body) {
				t.Error("a body has changed", x.Funs[i].Name)
			}
		}
	}
}

// Nil and empty slices are equivalent.
func TestEmpty(t *testing.T) {
	x := get(t, signs+"fun s : o = #a #c (f #c)\nfun f : o > o = $0\n")
	y := get(t, signs+"fun s : o = #a #c (f #c)\nfun f : o > o = $0\n")
	for _, a := range [][]api.Term{y.Funs[0].Body.Args, y.Funs[0].Body.Args[1].Args} {
		a[0].Args = []api.Term{}
	}
	y.Funs[0].Sort.Args, y.Funs[1].Sort.Args[0].Args, y.Funs[1].Body.Args = []api.Sort{}, []api.Sort{}, []api.Term{}
	for _, z := range []api.Scheme{x, y} {
		gives(t, z, f(0), 3, 1, "a(c,c)")
		gives(t, z, api.Term{Kind: api.KFun, Args: []api.Term{}}, 3, 1, "a(c,c)")
		gives(t, z, f(1, api.Term{Kind: api.KSym, N: 2, Args: []api.Term{}}), 3, 1, "c")
		at(t, z, []int{1}, 1, 2, api.OK)
		at(t, z, []int{}, 1, 0, api.OK)
	}
	alike(t, x, y, 9, 9, true, api.OK)
}

// P1: all functions return, whatever the arguments are.
func TestAnyArguments(t *testing.T) {
	numbers := []int{math.MinInt, -1, 0, 1, 3, 200, 201, api.MaxSteps, api.MaxSteps + 1, math.MaxInt}
	schemes := []api.Scheme{get(t, sums), get(t, signs+"fun s : o = #a s s\n"), get(t, "fun s : o = s\n")}
	for _, x := range broken() {
		schemes = append(schemes, x)
	}
	terms := []api.Term{{}, f(0), f(1), s(2), s(1, s(2)), v(-1), {Kind: -7, N: math.MinInt, Args: make([]api.Term, 9)}, shared(40), f(math.MaxInt, f(0))}
	paths := [][]int{nil, {0}, {1, 1, 0}, {-1}, {math.MaxInt}, make([]int, 201)}
	for i, x := range schemes {
		for _, n := range numbers {
			for _, path := range paths {
				grow.At(x, path, n)
			}
			for _, m := range numbers {
				if _, e := grow.Tree(x, m, n); e == api.OK && (i > 2 || n < 0 || m < 0) {
					t.Error(i, m, n)
				}
				for _, y := range terms {
					grow.From(x, y, m, n)
				}
				for _, y := range schemes[2:] {
					grow.Alike(x, y, m, n)
				}
			}
		}
	}
}

// The same arguments have the same results.
func TestAgain(t *testing.T) {
	x, y := get(t, sums), get(t, signs+"fun s : o = #a #c s\n")
	first, e := grow.Tree(x, 9, 5)
	n, g := grow.At(x, []int{1, 1, 0}, 5)
	is, h := grow.Alike(x, y, 9, 5)
	for range 5 {
		if z, f := grow.Tree(x, 9, 5); !reflect.DeepEqual(first, z) || e != f {
			t.Error(face(z), f)
		}
		if m, f := grow.At(x, []int{1, 1, 0}, 5); n != m || g != f {
			t.Error(m, f)
		}
		if too, f := grow.Alike(x, y, 9, 5); is != too || h != f {
			t.Error(too, f)
		}
	}
}
