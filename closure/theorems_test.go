package closure_test

import (
	"math/rand"
	"testing"

	"virgation/api"
	"virgation/closure"
	"virgation/grow"
	"virgation/step"
	"virgation/tree"
)

// A walk is a machine at a place, with what the term of step is there.
type walk struct {
	m    *closure.Machine
	term api.Term
}

// P8.4: at each place the symbol of At, after as many steps as Run needs.
func TestSymbols(t *testing.T) {
	r := rand.New(rand.NewSource(84))
	met := map[api.Errno]int{}
	most, far := 0, 0
	for range 600 {
		x := random(r)
		todo := []walk{{root(t, x), f(0)}}
		for n := 0; n < len(todo) && n < 40; n++ {
			w := todo[n]
			fuel := []int{0, 1, 5, 100}[r.Intn(4)]
			want, e := grow.At(x, w.m.Path(), 100)
			term, steps, g := step.Run(x, w.term, 100)
			if e != g || want != term.N {
				t.Fatal(w.m.Path(), want, e, term.N, g)
			}
			met[e]++
			if e != api.OK { // the machine goes on where a term is too large
				if sym, _, g := w.m.Go(100); e == api.ErrFuel && (sym != 0 || g != api.ErrFuel) {
					t.Fatal(w.m.Path(), sym, g)
				}
				continue
			}
			if fuel < steps {
				goes(t, w.m, fuel, 0, 0, api.ErrFuel)
				goes(t, w.m, steps-fuel, want, steps-fuel, api.OK)
			} else {
				goes(t, w.m, fuel, want, steps, api.OK)
			}
			if t.Failed() {
				t.FailNow()
			}
			most, far = max(most, steps), max(far, len(w.m.Path()))
			for i, a := range term.Args {
				k := w.m.Fork()
				moves(t, k, i, api.OK)
				todo = append(todo, walk{k, a})
			}
		}
	}
	if met[api.OK] < 5000 || met[api.ErrFuel] < 300 || met[api.ErrLimit] < 20 || most < 15 || far < 8 {
		t.Error(met, most, far)
	}
}

// grown is what a machine's place has grown to (layer 7).
func grown(t *testing.T, m *closure.Machine, depth, fuel int) api.Tree {
	t.Helper()
	unknown := api.Tree{Sym: -1}
	if depth == 0 {
		return unknown
	}
	sym, _, e := m.Go(fuel)
	if e != api.OK {
		return unknown
	}
	out := api.Tree{Sym: sym}
	for i := 0; ; i++ {
		k := m.Fork()
		if e := k.Kid(i); e != api.OK {
			if e != api.ErrNone {
				t.Fatal(e)
			}
			return out
		}
		out.Kids = append(out.Kids, grown(t, k, depth-1, fuel))
	}
}

// P2: the tree of the machine is that of reduction; with the same depth and fuel both have grown to the same, as a rule.
func TestTree(t *testing.T) {
	r := rand.New(rand.NewSource(2))
	same, larger := 0, 0
	for range 400 {
		x := random(r)
		var ranks []int
		for _, y := range x.Syms {
			ranks = append(ranks, y.Rank)
		}
		for _, n := range [][2]int{{1, 2}, {3, 5}, {4, 30}, {5, 0}, {5, 8}} {
			want, e := grow.Tree(x, n[0], n[1])
			if e != api.OK {
				continue
			}
			z := grown(t, root(t, x), n[0], n[1])
			if is, e := tree.AtLeast(ranks, z, want); !is || e != api.OK {
				t.Fatal(n, z, want, e)
			}
			if tree.Same(z, want) {
				same++
			} else { // a term was too large for layer 5
				larger++
			}
		}
	}
	if same < 1500 || larger > 20 {
		t.Error(same, larger)
	}
	for _, text := range []string{sums, powers("#a (p5 #c) (#b (p3 s))"), signs + "fun s : o = #a s loop\nfun loop : o = loop\n"} {
		x := get(t, text)
		for _, n := range [][2]int{{0, 9}, {1, 1}, {3, 2}, {6, 60}, {9, 100}} {
			want, e := grow.Tree(x, n[0], n[1])
			if z := grown(t, root(t, x), n[0], n[1]); !tree.Same(z, want) || e != api.OK {
				t.Error(n, z, want, e)
			}
		}
	}
}

// P8.4 on long paths.
func TestFarSymbols(t *testing.T) {
	r := rand.New(rand.NewSource(85))
	x := get(t, signs+"symbol t 3\nfun s : o = f g #c\nfun f : (o > o) > o > o = #t (f $0 ($0 $1)) $1 (#b (f (h $0) $1))\nfun g : o > o = #a $0 (g $0)\nfun h : (o > o) > o > o = $0 ($0 $1)\n")
	ends := map[int]int{}
	for range 30 {
		m := root(t, x)
		var path []int
		for {
			sym, _, e := m.Go(300)
			if e != api.OK {
				t.Fatal(path, e)
			}
			rank := x.Syms[sym].Rank
			if rank == 0 || len(path) == api.MaxHigh {
				break
			}
			i := 0
			if sym == 0 || r.Intn(30) == 0 {
				i = r.Intn(rank)
			}
			moves(t, m, i, api.OK)
			path = append(path, i)
		}
		stands(t, m, path...)
		want, e := grow.At(x, path, 300)
		if e == api.OK {
			goes(t, m, 0, want, 0, api.OK)
		} else if e != api.ErrLimit {
			t.Error(path, e)
		}
		ends[len(path)/50]++
	}
	if ends[0] < 3 || ends[1]+ends[2]+ends[3] < 3 || ends[4] < 3 {
		t.Error(ends)
	}
}

// P8.5: Go with little fuel, again and again, is Go with all of it; what a fork does is what the machine does.
func TestDivided(t *testing.T) {
	r := rand.New(rand.NewSource(86))
	x := []api.Scheme{
		get(t, powers("#a (p9 (p7 s)) (p11 #c)")),
		get(t, powers("p19 (p19 s)")), // it has no symbol within the fuel
		get(t, signs+"fun s : o = f #c\nfun f : o > o = f (#a $0 $0)\n"),
	}
	for range 150 {
		x = append(x, random(r))
	}
	for _, y := range x {
		whole := root(t, y)
		parts := whole.Fork()
		for range 12 {
			fuel := []int{3, 50, 3000}[r.Intn(3)]
			sym, n, e := whole.Go(fuel)
			var forks []*closure.Machine
			left := fuel
			for left > 0 {
				forks = append(forks, parts.Fork())
				k := min(left, r.Intn(fuel/2+2))
				f, m, g := parts.Go(k)
				if g == api.OK {
					if e != api.OK || f != sym || m != n-(fuel-left) {
						t.Fatal(f, m, sym, n, fuel, left)
					}
					break
				}
				if f != 0 || m != 0 || g != api.ErrFuel {
					t.Fatal(f, m, g)
				}
				left -= k
			}
			if (left == 0) != (e == api.ErrFuel) {
				t.Fatal(left, e)
			}
			for _, k := range forks {
				k.Go(fuel)
				if e == api.OK {
					goes(t, k, 0, sym, 0, api.OK)
				}
			}
			if e != api.OK {
				continue
			}
			i := r.Intn(3)
			moved := whole.Kid(i)
			if g := parts.Kid(i); g != moved {
				t.Fatal(moved, g)
			}
			for _, k := range forks {
				moves(t, k, i, moved)
				stands(t, k, whole.Path()...)
			}
			stands(t, parts, whole.Path()...)
		}
		if t.Failed() {
			return
		}
	}
}
