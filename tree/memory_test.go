package tree_test

import (
	"reflect"
	"slices"
	"testing"

	"virgation/api"
	"virgation/tree"
)

// results calls all functions that return trees, with the same arguments.
func results(a, b api.Tree) []api.Tree {
	var out []api.Tree
	add := func(x api.Tree, e api.Errno) {
		if e == api.OK {
			out = append(out, x)
		}
	}
	add(tree.Meet(wide(), a, b))
	add(tree.Meet(wide(), a, a))
	add(tree.Join(wide(), a, b))
	add(tree.Join(wide(), b, a))
	add(tree.Join(wide(), a, u()))
	add(tree.Join(wide(), u(), a))
	add(tree.Join(wide(), a, a))
	for d := range 5 {
		add(tree.Cut(wide(), a, d))
	}
	for _, path := range [][]int{nil, {0}, {1}, {0, 0}, {1, 1, 0}} {
		add(tree.At(wide(), a, path))
	}
	for _, x := range []api.Tree{a, b} {
		text, _ := tree.Put(five(), x)
		add(tree.Get(five(), text))
	}
	return out
}

// Rules 3 and 7: no argument is changed or kept, and results are new memory, no two slices of which are the same.
func TestMemory(t *testing.T) {
	part := roomy(n(2, n(1, n(0)), n(3, n(0), u(), n(1, u()))))
	for _, pair := range [][2]api.Tree{
		{roomy(n(2, n(1, u()), u())), part}, {n(2, part, part), n(2, part, u())}, {n(2, u(), part), n(2, part, u())}, {n(1, n(1, part)), u()},
		{n(4, part, part, n(1, part), u()), n(4, u(), part, n(1, u()), part)}, {part, n(1, part)}, {u(), u()}, {n(0), n(0)},
	} {
		a, b := pair[0], pair[1]
		want := face(a) + face(b)
		met := map[*api.Tree]bool{}
		for _, x := range pair {
			places(x, func(p *api.Tree) { met[p] = true })
		}
		first, again := results(a, b), results(a, b)
		if len(first) < 8 || !reflect.DeepEqual(first, again) {
			t.Error(want, len(first))
		}
		for _, x := range append(first, again...) {
			places(x, func(p *api.Tree) {
				if met[p] {
					t.Error("shared memory", want, face(x))
				}
				met[p] = true
			})
			places(x, func(p *api.Tree) { *p = n(99) })
		}
		for _, l := range [][]api.Tree{results(a, b), results(roomy(a), roomy(b))} {
			if !slices.EqualFunc(l, results(a, b), func(x, y api.Tree) bool { return face(x) == face(y) }) {
				t.Error("other results", want)
			}
		}
		if face(a)+face(b) != want || !whole(part) {
			t.Error("an argument has changed", want)
		}
	}
}

// Lists of ranks, symbols and numbers of kids are not changed, with what lies behind them.
func TestLists(t *testing.T) {
	l := append(make([]int, 0, 9), wide()...)
	path := append(make([]int, 0, 9), 1, 0)
	syms := append(make([]api.Symbol, 0, 9), five()...)
	for i := range 4 {
		l[:9][5+i], path[:9][5+i], syms[:9][5+i] = 50, 60, api.Symbol{Name: "x"}
	}
	x := n(2, u(), n(1, n(0)))
	tree.Check(l, x)
	tree.AtLeast(l, x, x)
	tree.Meet(l, x, x)
	tree.Join(l, x, x)
	tree.Cut(l, x, 2)
	if y, e := tree.At(l, x, path); face(y) != "0" || e != api.OK {
		t.Error(face(y), e)
	}
	text, _ := tree.Put(syms, x)
	if y, e := tree.Get(syms, text); face(y) != face(x) || e != api.OK {
		t.Error(text, face(y), e)
	}
	if !slices.Equal(l[:9], []int{0, 1, 2, 3, 4, 50, 50, 50, 50}) || !slices.Equal(path[:9], []int{1, 0, 0, 0, 0, 60, 60, 60, 60}) {
		t.Error(l[:9], path[:9])
	}
	for i, s := range syms[:9] {
		if i < 5 && s != five()[i] || i >= 5 && s.Name != "x" {
			t.Error(i, s)
		}
	}
}

// Nil and empty slices are equivalent.
func TestEmpty(t *testing.T) {
	none := []api.Tree{}
	a := api.Tree{Sym: 2, Kids: []api.Tree{{Sym: 0, Kids: none}, {Sym: -1, Kids: none}}}
	b := n(2, n(0), u())
	if !tree.Same(a, b) || !tree.Same(b, a) || tree.Check(wide(), a) != api.OK || !atLeast(t, wide(), a, b) || !atLeast(t, wide(), b, a) {
		t.Error("nil and empty slices differ")
	}
	x, y := results(a, b), results(b, a)
	if !slices.EqualFunc(x, y, func(x, y api.Tree) bool { return face(x) == face(y) }) {
		t.Error(len(x), len(y))
	}
	if nodes, depth := tree.Size(a); nodes != 3 || depth != 2 {
		t.Error(nodes, depth)
	}
	if z, e := tree.Get([]api.Symbol{}, "_"); face(z) != "-1" || e != api.OK {
		t.Error(face(z), e)
	}
	if z, e := tree.At(nil, api.Tree{Sym: -1, Kids: none}, []int{}); face(z) != "-1" || e != api.OK {
		t.Error(face(z), e)
	}
}
