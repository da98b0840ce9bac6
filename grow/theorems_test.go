package grow_test

import (
	"math/rand"
	"slices"
	"testing"

	"virgation/api"
	"virgation/grow"
	"virgation/step"
	"virgation/tree"
)

// from is what a term has grown to; no tree if it has too many nodes.
func from(t *testing.T, x api.Scheme, y api.Term, depth, fuel int) (api.Tree, bool) {
	t.Helper()
	z, e := grow.From(x, y, depth, fuel)
	if e != api.OK && e != api.ErrLimit {
		t.Fatal(e)
	}
	return z, e == api.OK
}

// P7.4: with more depth and more fuel a tree is at least as large; any two trees of a scheme have one above them.
func TestParts(t *testing.T) {
	r := rand.New(rand.NewSource(74))
	stakes := [][2]int{{0, 9}, {1, 1}, {2, 30}, {3, 2}, {4, 4}, {4, 30}, {6, 1}, {6, 5}}
	larger, crossed := 0, 0
	for range 500 {
		x, w := random(r)
		y := w.closed(3)
		ranks := ranksOf(t, x)
		var trees []api.Tree
		var good []bool
		for _, n := range stakes {
			z, ok := from(t, x, y, n[0], n[1])
			trees, good = append(trees, z), append(good, ok)
		}
		for i, n := range stakes {
			for k, m := range stakes {
				a, b := trees[i], trees[k]
				if !good[i] || !good[k] {
					continue
				}
				j, e := tree.Join(ranks, a, b)
				if e != api.OK {
					t.Fatalf("%v, %v: %.200s and %.200s have none above: %d", n, m, face(a), face(b), e)
				}
				if !tree.Same(j, a) && !tree.Same(j, b) {
					crossed++
				}
				if n[0] > m[0] || n[1] > m[1] {
					continue
				}
				if is, e := tree.AtLeast(ranks, b, a); !is || e != api.OK {
					t.Fatalf("%v, %v: %.200s is not above %.200s", n, m, face(b), face(a))
				}
				if !tree.Same(a, b) {
					larger++
				}
			}
		}
	}
	if larger < 2000 || crossed < 100 {
		t.Error(larger, crossed)
	}
}

// P7.5: Cut of Tree is Tree.
func TestCut(t *testing.T) {
	r := rand.New(rand.NewSource(75))
	for range 400 {
		x, _ := random(r)
		ranks := ranksOf(t, x)
		for _, fuel := range []int{1, 3, 20} {
			whole, good := from(t, x, f(0), 6, fuel)
			for depth := range 8 {
				if !good {
					break
				}
				part, e := tree.Cut(ranks, whole, min(depth, 6))
				z, g := grow.Tree(x, min(depth, 6), fuel)
				if !tree.Same(part, z) || e != api.OK || g != api.OK {
					t.Fatalf("%d, %d: %.200s, not %.200s", depth, fuel, face(z), face(part))
				}
			}
		}
	}
}

// P7.5: At agrees with Tree at all places of the tree, and is an error where the tree is unknown ahead of its last level.
func TestAtAndTree(t *testing.T) {
	r := rand.New(rand.NewSource(76))
	known, unknown := 0, 0
	for range 300 {
		x, _ := random(r)
		for _, fuel := range []int{1, 3, 20} {
			whole, good := from(t, x, f(0), 4, fuel)
			if !good {
				continue
			}
			var visit func(part api.Tree, path []int)
			visit = func(part api.Tree, path []int) {
				n, e := grow.At(x, path, fuel)
				switch {
				case part.Sym >= 0:
					known++
					if n != part.Sym || e != api.OK {
						t.Fatalf("%v: %d %d, not %d", path, n, e, part.Sym)
					}
				case len(path) < 4:
					unknown++
					if n != 0 || e != api.ErrFuel && e != api.ErrLimit {
						t.Fatalf("%v: %d %d", path, n, e)
					}
				}
				for i, k := range part.Kids {
					visit(k, append(slices.Clone(path), i))
				}
			}
			visit(whole, nil)
		}
	}
	if known < 3000 || unknown < 500 {
		t.Error(known, unknown)
	}
}

// P7.6: a term and the term after a step have trees that are alike; with one step less the latter has grown to the same at least.
func TestAfterStep(t *testing.T) {
	r := rand.New(rand.NewSource(77))
	steps := 0
	for range 500 {
		x, w := random(r)
		ranks := ranksOf(t, x)
		y := w.closed(4)
		for range 6 {
			next, is, e := step.Step(x, y)
			if e != api.OK || !is {
				break
			}
			for _, n := range [][2]int{{2, 3}, {4, 9}, {5, 30}} {
				before, good := from(t, x, y, n[0], n[1])
				after, goodToo := from(t, x, next, n[0], n[1]-1)
				if !good || !goodToo {
					continue
				}
				if _, e := tree.Join(ranks, before, after); e != api.OK || before.Sym != after.Sym {
					t.Fatalf("%v: %.200s, then %.200s", n, face(before), face(after))
				}
				steps++
			}
			y = next
		}
	}
	if steps < 2000 {
		t.Error(steps)
	}
}
