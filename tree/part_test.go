package tree_test

import (
	"math"
	"math/rand"
	"strconv"
	"testing"

	"virgation/api"
	"virgation/tree"
)

// down is what t is in the first levels, from its plan.
func down(t api.Tree, ranks []int, levels int) api.Tree {
	p := planOf(t)
	for path := range planOf(t) {
		if len(path) >= levels {
			delete(p, path)
		}
	}
	return treeOf(p, ranks, "")
}

// P6.3: Cut, with P6.6, of all small trees.
func TestCut(t *testing.T) {
	for _, x := range upTo(6, ranks()) {
		for d := range 8 {
			c, e := tree.Cut(ranks(), x, d)
			if face(c) != face(down(x, ranks(), d)) || e != api.OK {
				t.Errorf("%s %d: %s %d", face(x), d, face(c), e)
			}
			if !atLeast(t, ranks(), x, c) {
				t.Error(face(x), face(c))
			}
			for d2 := range 8 {
				again, e := tree.Cut(ranks(), c, d2)
				once, g := tree.Cut(ranks(), x, min(d, d2))
				if !tree.Same(again, once) || e != api.OK || g != api.OK {
					t.Error(face(x), d, d2, face(again), face(once))
				}
			}
		}
	}
}

func TestCutLarge(t *testing.T) {
	r := rand.New(rand.NewSource(66))
	for range 100 {
		x := any4(r, 7, true)
		d := r.Intn(9)
		if c, e := tree.Cut(wide(), x, d); face(c) != face(down(x, wide(), d)) || e != api.OK {
			t.Fatal(face(x), d, face(c), e)
		}
	}
	for name, x := range fine() {
		_, high := tree.Size(x)
		for _, d := range []int{high, high + 1, api.MaxHigh, api.MaxHigh + 1, 1 << 32, math.MaxInt} {
			if c, e := tree.Cut(wide(), x, d); !tree.Same(c, x) || e != api.OK {
				t.Error(name, d, e)
			}
		}
		for _, d := range []int{-1, -2, -1 << 32, math.MinInt} {
			if c, e := tree.Cut(wide(), x, d); face(c) != "0" || e != api.ErrArg {
				t.Error(name, d, e)
			}
		}
		if c, e := tree.Cut(wide(), x, 0); face(c) != "-1" || e != api.OK {
			t.Error(name, face(c), e)
		}
	}
	x := chain(api.MaxHigh, n(0))
	for _, d := range []int{1, 2, 100, 198, 199} {
		if c, e := tree.Cut(wide(), x, d); !tree.Same(c, chain(d+1, u())) || e != api.OK {
			t.Error(d, e)
		}
	}
}

// P6.3: At, of all small trees and all short paths, also those that lead out.
func TestAt(t *testing.T) {
	out := 0
	for _, x := range upTo(6, ranks()) {
		p := planOf(x)
		var visit func(path []int, text string, sym int)
		visit = func(path []int, text string, sym int) {
			y, e := tree.At(ranks(), x, path)
			if want := treeOf(p, ranks(), text); face(y) != face(want) || e != api.OK {
				t.Errorf("%s %s: %s %d", face(x), text, face(y), e)
			}
			rank := 0
			if sym >= 0 {
				rank = ranks()[sym]
			}
			for _, i := range []int{-1, 0, 1, 2, 3, 1 << 32, -1 << 32, math.MaxInt, math.MinInt} {
				longer := append(append([]int{}, path...), i)
				if 0 <= i && i < rank {
					next, known := p[text+strconv.Itoa(i)]
					if !known {
						next = -1
					}
					visit(longer, text+strconv.Itoa(i), next)
					continue
				}
				out++
				for _, l := range [][]int{longer, append(longer, 0), append(longer, -1), append(longer, make([]int, 300)...)} {
					if y, e := tree.At(ranks(), x, l); face(y) != "0" || e != api.ErrNone {
						t.Errorf("%s %v: %s %d", face(x), l, face(y), e)
					}
				}
			}
		}
		visit(nil, "", x.Sym)
	}
	if out == 0 {
		t.Error("no path leads out")
	}
}

func TestAtDeep(t *testing.T) {
	x := chain(api.MaxHigh, n(0))
	for _, d := range []int{0, 1, 100, 198, 199} {
		if y, e := tree.At(wide(), x, make([]int, d)); !tree.Same(y, chain(api.MaxHigh-d, n(0))) || e != api.OK {
			t.Error(d, e)
		}
	}
	for _, d := range []int{200, 201, 1 << 20} {
		if y, e := tree.At(wide(), x, make([]int, d)); face(y) != "0" || e != api.ErrNone {
			t.Error(d, face(y), e)
		}
	}
	if y, e := tree.At(wide(), full(u()), []int{1}); !tree.Same(y, bushy(api.MaxTree-api.MaxHigh, u())) || e != api.OK {
		t.Error(e)
	}
	if y, e := tree.At(wide(), full(u()), []int{}); !tree.Same(y, full(u())) || e != api.OK {
		t.Error(e)
	}
	for i := range 4 { // the kids of a node are told from one another
		if y, e := tree.At(wide(), n(4, n(0), n(1, n(0)), n(1, u()), n(2, u(), n(0))), []int{i}); e != api.OK || face(y) != []string{"0", "1(0)", "1(-1)", "2(-1)(0)"}[i] {
			t.Error(i, face(y), e)
		}
	}
}
