package closure_test

import (
	"math"
	"reflect"
	"slices"
	"sync"
	"testing"

	"virgation/api"
	"virgation/closure"
)

// roomy is t in new memory, with room behind all arguments, which is not empty.
func roomy(t api.Term) api.Term {
	out := api.Term{Kind: t.Kind, N: t.N, Args: make([]api.Term, 0, len(t.Args)+2)}
	for _, a := range t.Args {
		out.Args = append(out.Args, roomy(a))
	}
	copy(out.Args[len(out.Args):cap(out.Args)], []api.Term{v(77), v(78)})
	return out
}

// whole reports whether x is still y, as roomy made it.
func whole(x, y api.Term) bool {
	behind := x.Args[len(x.Args):cap(x.Args)]
	if x.Kind != y.Kind || x.N != y.N || len(x.Args) != len(y.Args) || !reflect.DeepEqual(behind, []api.Term{v(77), v(78)}) {
		return false
	}
	for i := range x.Args {
		if !whole(x.Args[i], y.Args[i]) {
			return false
		}
	}
	return true
}

// branches is a scheme whose tree has symbols after different numbers of steps.
const branches = signs + "fun s : o = f g #c\nfun f : (o > o) > o > o = #a ($0 $1) (f (h $0) (#b $1))\nfun g : o > o = $0\nfun h : (o > o) > o > o = $0 ($0 $1)\n"

// spoil changes a scheme, everywhere.
func spoil(x api.Scheme) {
	for i := range x.Syms {
		x.Syms[i] = api.Symbol{Name: "z", Rank: 4}
	}
	var change func(l []api.Term)
	change = func(l []api.Term) {
		for i := range l {
			change(l[i].Args)
			l[i].Kind, l[i].N, l[i].Args = 9, 99, nil
		}
	}
	for i := range x.Funs {
		change(x.Funs[i].Body.Args)
		x.Funs[i] = api.Fun{Name: "z", Body: api.Term{Kind: -1}}
	}
}

// Rule 3: New does not change the scheme, and the machine does not keep it.
func TestSchemeIsNotKept(t *testing.T) {
	x, y, z := get(t, branches), get(t, branches), get(t, branches)
	for i := range x.Funs {
		x.Funs[i].Body = roomy(x.Funs[i].Body)
	}
	m, k := root(t, x), root(t, y)
	fork := k.Fork()
	spoil(y)
	for _, i := range []int{1, 1, 1, 0, 0, 0} {
		f, n, e := m.Go(100)
		goes(t, k, 100, f, n, e)
		goes(t, fork, 100, f, n, e)
		for _, w := range []*closure.Machine{m, k, fork} {
			moves(t, w, i, api.OK)
		}
	}
	for i := range x.Funs {
		if !whole(x.Funs[i].Body, z.Funs[i].Body) || !reflect.DeepEqual(x.Funs[i].Sort, z.Funs[i].Sort) {
			t.Error("a function has changed", x.Funs[i].Name)
		}
	}
	if !reflect.DeepEqual(x.Syms, z.Syms) {
		t.Error(x.Syms)
	}
}

// Nil and empty slices are equivalent.
func TestEmpty(t *testing.T) {
	x := get(t, signs+"fun s : o = #a #c (f #c)\nfun f : o > o = $0\n")
	for _, a := range [][]api.Term{x.Funs[0].Body.Args, x.Funs[0].Body.Args[1].Args} {
		a[0].Args = []api.Term{}
	}
	x.Funs[0].Sort.Args, x.Funs[1].Sort.Args[0].Args, x.Funs[1].Body.Args = []api.Sort{}, []api.Sort{}, []api.Term{}
	for i := range 2 {
		m := root(t, x)
		goes(t, m, 1, 0, 1, api.OK)
		moves(t, m, i, api.OK)
		goes(t, m, 1, 2, i, api.OK)
		stands(t, m, i)
	}
}

// Copies of a machine's value are like forks of it.
func TestCopies(t *testing.T) {
	m := at(t, branches, 1, 1)
	goes(t, m, 9, 0, 1, api.OK)
	for range 20 {
		x := *m
		y := *m
		moves(t, &x, 0, api.OK)
		moves(t, &y, 1, api.OK)
		stands(t, m, 1, 1)
		stands(t, &x, 1, 1, 0)
		stands(t, &y, 1, 1, 1)
		goes(t, &y, 9, 0, 1, api.OK)
		goes(t, &x, 9, 1, 7, api.OK)
		moves(t, &x, 0, api.OK)
		moves(t, &y, 0, api.OK)
		goes(t, &y, 99, 1, 15, api.OK)
		stands(t, &x, 1, 1, 0, 0)
	}
}

// A machine that New has not made has no tree: it is taken as nil.
func TestNoMachine(t *testing.T) {
	for _, m := range []*closure.Machine{nil, {}, new(closure.Machine)} {
		for _, n := range append(numbers(), 0, 1, api.MaxSteps, api.MaxSteps+1) {
			goes(t, m, n, 0, 0, api.ErrNil)
			moves(t, m, n, api.ErrNil)
		}
		stands(t, m)
		if m.Fork() != nil {
			t.Error("a fork of none")
		}
	}
}

// P1: all functions return, whatever the arguments are, in any order.
func TestAnyArguments(t *testing.T) {
	all := []api.Scheme{get(t, sums), get(t, branches), get(t, "fun s : o = s\n"), get(t, "symbol c 0\nfun s : o = #c\n")}
	for _, x := range broken() {
		all = append(all, x)
	}
	fuels := []int{math.MinInt, -1, 0, 1, 3, 1000, api.MaxSteps + 1, math.MaxInt}
	kids := []int{math.MinInt, -1, 0, 1, 2, 4, 1 << 32, math.MaxInt}
	for i, x := range all {
		m, e := closure.New(x)
		if (e == api.OK) != (i < 4) || (m == nil) != (i >= 4) {
			t.Error(i, e)
		}
		for n := range 2000 {
			m.Go(fuels[n*n%7])
			m.Go(fuels[n%8])
			m.Kid(kids[n/3%8])
			m = m.Fork()
			m.Path()
		}
		if len(m.Path()) > api.MaxHigh {
			t.Error(len(m.Path()))
		}
	}
}

// Rule 7: machines of the same scheme do the same.
func TestAgain(t *testing.T) {
	for range 5 {
		a, b := at(t, branches), at(t, branches)
		for n := range 300 {
			f, k, e := a.Go(n % 7)
			goes(t, b, n%7, f, k, e)
			moves(t, b, (n+1)%2, a.Kid((n+1)%2))
			stands(t, b, a.Path()...)
		}
	}
}

// Forks may be used at the same time, since they have nothing in common that changes.
func TestAtTheSameTime(t *testing.T) {
	m := at(t, branches, 1, 1, 1)
	goes(t, m, 9, 0, 1, api.OK)
	visit := func(k *closure.Machine, n int) []int {
		out := []int{int(k.Kid(n % 2))}
		for range 12 {
			sym, steps, e := k.Go(api.MaxSteps)
			out = append(out, sym, steps, int(e), int(k.Kid(0)))
		}
		return append(out, k.Path()...)
	}
	got := make([][]int, 8)
	var all sync.WaitGroup
	for n := range got {
		k := m.Fork()
		all.Go(func() { got[n] = visit(k, n) })
	}
	all.Wait()
	for n, l := range got {
		if want := visit(m.Fork(), n); !slices.Equal(l, want) || len(l) < 50 {
			t.Error(n, l, want)
		}
	}
	stands(t, m, 1, 1, 1)
}
