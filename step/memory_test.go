package step_test

import (
	"reflect"
	"slices"
	"testing"

	"virgation/api"
	"virgation/scheme"
	"virgation/step"
)

// roomy is t in new memory, with room behind all arguments, which is not empty.
func roomy(t api.Term) api.Term {
	out := api.Term{Kind: t.Kind, N: t.N, Args: make([]api.Term, 0, len(t.Args)+2)}
	for _, a := range t.Args {
		out.Args = append(out.Args, roomy(a))
	}
	copy(out.Args[len(out.Args):cap(out.Args)], []api.Term{v(77), v(78)})
	return out
}

// whole reports whether t is still as roomy made it.
func whole(t api.Term) bool {
	behind := t.Args[len(t.Args):cap(t.Args)]
	if len(behind) < 2 || face(behind[0]) != "0.77" || face(behind[1]) != "0.78" {
		return false
	}
	return !slices.ContainsFunc(t.Args, func(a api.Term) bool { return !whole(a) })
}

// places calls a function for each element of the memory behind t.
func places(t api.Term, visit func(*api.Term)) {
	for i := range t.Args[:cap(t.Args)] {
		visit(&t.Args[:cap(t.Args)][i])
	}
	for _, a := range t.Args {
		places(a, visit)
	}
}

// Rules 3 and 7: no argument is changed or kept, and results are new memory, no two slices of which are the same.
func TestMemory(t *testing.T) {
	x := get(t, signs+"fun s : o = k (f #c)\nfun f : o > o = #a $0 (#a $0 (f (#b $0)))\nfun k : o > o = #b (#b $0)\nfun on : (o > o) > o > o = $0 ($0 $1)\n")
	for i := range x.Funs {
		x.Funs[i].Body = roomy(x.Funs[i].Body)
	}
	put, _ := scheme.Put(x)
	part := roomy(s(1, f(1, s(1, s(2)))))
	twice := s(0, part, f(1, part))
	for _, y := range []api.Term{
		twice, f(1, twice), f(2, twice), f(3, f(1), twice), f(3, s(0, part), part), f(3, f(3, s(0, twice)), twice), f(0),
	} {
		want := face(y)
		met := map[*api.Term]bool{}
		for _, z := range x.Funs {
			places(z.Body, func(p *api.Term) { met[p] = true })
		}
		places(y, func(p *api.Term) { met[p] = true })
		enter := func(z api.Term) {
			places(z, func(p *api.Term) {
				if met[p] {
					t.Error("shared memory", want, face(z))
				}
				met[p] = true
			})
		}
		z, is, e := step.Step(x, y)
		again, isToo, g := step.Step(x, y)
		if e != api.OK || g != api.OK || is != isToo || face(z) != face(again) {
			t.Error(want, is, e, g)
		}
		enter(z)
		enter(again)
		last, n, e := step.Run(x, y, 9)
		lastToo, m, g := step.Run(x, y, 9)
		if e != api.OK || g != api.OK || n != m || face(last) != face(lastToo) {
			t.Error(want, n, e, g)
		}
		enter(last)
		enter(lastToo)
		l, _ := step.Heads(x, y, 9)
		kept := slices.Clone(l)
		for i := range l {
			l[i] = -1
		}
		if again, _ := step.Heads(x, y, 9); !slices.Equal(again, kept) || len(kept) != n {
			t.Error(kept, again)
		}
		if now, _ := scheme.Put(x); now != put || face(y) != want || !whole(part) {
			t.Error("an argument has changed", want, face(y))
		}
		for _, z := range x.Funs {
			if !whole(z.Body) {
				t.Error("a body has changed", z.Name)
			}
		}
	}
}

// Nil and empty slices are equivalent.
func TestEmpty(t *testing.T) {
	nothing := api.Term{Kind: api.KSym, N: 2, Args: []api.Term{}}
	x := get(t, signs+"fun s : o = #c\nfun f : o > o = #a $0 $0\n")
	y := get(t, signs+"fun s : o = #c\nfun f : o > o = #a $0 $0\n")
	y.Funs[0].Body.Args, y.Funs[0].Sort.Args = []api.Term{}, []api.Sort{}
	y.Funs[1].Sort.Args[0].Args = []api.Sort{}
	for i := range 2 {
		y.Funs[1].Body.Args[i].Args = []api.Term{}
	}
	for _, z := range []api.Term{nothing, f(1, nothing), s(0, nothing, f(1, nothing)), {Kind: api.KFun, Args: []api.Term{}}} {
		a, n, e := step.Run(x, z, 5)
		b, m, g := step.Run(y, z, 5)
		if face(a) != face(b) || n != m || e != api.OK || g != api.OK {
			t.Error(face(z), face(a), face(b), n, m, e, g)
		}
	}
}

// The same arguments have the same results.
func TestAgain(t *testing.T) {
	x := powers(t)
	for _, fuel := range []int{0, 5, 31, 32, 1000} {
		y := f(5, s(1, f(4, s(2))))
		first, n, e := step.Run(x, y, fuel)
		l, _ := step.Heads(x, y, fuel)
		for range 3 {
			z, m, g := step.Run(x, roomy(y), fuel)
			k, _ := step.Heads(x, roomy(y), fuel)
			if !reflect.DeepEqual(first, z) || n != m || e != g || !reflect.DeepEqual(l, k) {
				t.Error(fuel, face(z), m, g, k)
			}
		}
	}
}
