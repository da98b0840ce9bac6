package tree_test

import (
	"math/rand"
	"slices"
	"strconv"
	"strings"
	"testing"

	"virgation/api"
	"virgation/tree"
)

// The signatures that the chapter lists.
var (
	_ func([]int, api.Tree) api.Errno                       = tree.Check
	_ func(api.Tree) (int, int)                             = tree.Size
	_ func(api.Tree, api.Tree) bool                         = tree.Same
	_ func([]int, api.Tree, api.Tree) (bool, api.Errno)     = tree.AtLeast
	_ func([]int, api.Tree, api.Tree) (api.Tree, api.Errno) = tree.Meet
	_ func([]int, api.Tree, api.Tree) (api.Tree, api.Errno) = tree.Join
	_ func([]int, api.Tree, int) (api.Tree, api.Errno)      = tree.Cut
	_ func([]int, api.Tree, []int) (api.Tree, api.Errno)    = tree.At
	_ func([]api.Symbol, api.Tree) (string, api.Errno)      = tree.Put
	_ func([]api.Symbol, string) (api.Tree, api.Errno)      = tree.Get
)

// signs are the symbols of the document's example, and ranks their ranks.
func signs() []api.Symbol {
	return []api.Symbol{{Name: "a", Rank: 2}, {Name: "b", Rank: 1}, {Name: "c"}}
}

func ranks() []int { return []int{2, 1, 0} }

// wide has a symbol of each rank, with that number.
func wide() []int { return []int{0, 1, 2, 3, 4} }

func n(sym int, kids ...api.Tree) api.Tree { return api.Tree{Sym: sym, Kids: kids} }

// u is an unknown tree.
func u() api.Tree { return api.Tree{Sym: -1} }

// many is a list of n times x.
func many[T any](n int, x T) []T {
	var out []T
	for range n {
		out = append(out, x)
	}
	return out
}

// get returns the tree over signs of a text.
func get(t *testing.T, text string) api.Tree {
	t.Helper()
	x, e := tree.Get(signs(), text)
	if e != api.OK {
		t.Fatalf("%.200q: %d", text, e)
	}
	return x
}

// chain has n nodes and the depth n, over wide; its last node is last.
func chain(nodes int, last api.Tree) api.Tree {
	t := last
	for range nodes - 1 {
		t = n(1, t)
	}
	return t
}

// bushy has n nodes and few levels, over wide; its leaves are leaf.
func bushy(nodes int, leaf api.Tree) api.Tree {
	if nodes == 1 {
		return leaf
	}
	left := nodes - 1
	var kids []api.Tree
	for k := min(left, 4); k > 0; k-- {
		part := (left + k - 1) / k
		kids = append(kids, bushy(part, leaf))
		left -= part
	}
	return n(len(kids), kids...)
}

// shared has 2^levels - 1 nodes, in that many slices, over wide.
func shared(levels int) api.Tree {
	t := n(0)
	for range levels - 1 {
		t = n(2, t, t)
	}
	return t
}

// full has as many nodes and levels as a tree may have, over wide.
func full(leaf api.Tree) api.Tree {
	return n(2, chain(api.MaxHigh-1, leaf), bushy(api.MaxTree-api.MaxHigh, leaf))
}

// face is a string of any tree, by which the tests tell trees from one another.
func face(t api.Tree) string {
	var out strings.Builder
	write(&out, t)
	return out.String()
}

func write(out *strings.Builder, t api.Tree) {
	out.WriteString(strconv.Itoa(t.Sym))
	for _, k := range t.Kids {
		out.WriteString("(")
		write(out, k)
		out.WriteString(")")
	}
}

// short is the beginning of the face of a tree that is not too large.
func short(t api.Tree) string {
	if nodes, _ := tree.Size(t); nodes > api.MaxTree {
		return "large"
	}
	x := face(t)
	return x[:min(len(x), 80)]
}

// spelt is the string of a tree over some symbols, as the chapter describes it.
func spelt(syms []api.Symbol, t api.Tree) string {
	if t.Sym == -1 {
		return "_"
	}
	out := syms[t.Sym].Name
	if syms[t.Sym].Rank == 0 {
		return out
	}
	var kids []string
	for _, k := range t.Kids {
		kids = append(kids, spelt(syms, k))
	}
	return out + "(" + strings.Join(kids, ",") + ")"
}

// withNodes lists all trees with n nodes over symbols of some ranks.
func withNodes(nodes int, ranks []int) []api.Tree {
	var out []api.Tree
	if nodes == 1 {
		out = append(out, u())
	}
	for sym, rank := range ranks {
		for _, l := range lists(rank, nodes-1, ranks) {
			out = append(out, n(sym, l...))
		}
	}
	return out
}

// lists lists all lists of that many trees with n nodes together.
func lists(length, nodes int, ranks []int) [][]api.Tree {
	if length == 0 && nodes == 0 {
		return [][]api.Tree{nil}
	}
	var out [][]api.Tree
	for k := 1; k <= nodes && length > 0; k++ {
		rests := lists(length-1, nodes-k, ranks)
		for _, first := range withNodes(k, ranks) {
			for _, rest := range rests {
				out = append(out, append([]api.Tree{first}, rest...))
			}
		}
	}
	return out
}

// upTo lists all trees with at most n nodes.
func upTo(nodes int, ranks []int) []api.Tree {
	var out []api.Tree
	for k := 1; k <= nodes; k++ {
		out = append(out, withNodes(k, ranks)...)
	}
	return out
}

// any4 is a random tree over wide with at most that many levels, and mostly unknown leaves if that is asked.
func any4(r *rand.Rand, levels int, holes bool) api.Tree {
	if levels == 1 || r.Intn(8) == 0 {
		if holes && r.Intn(3) > 0 {
			return u()
		}
		return n(0)
	}
	rank := 1 + r.Intn(4)
	var kids []api.Tree
	for range rank {
		kids = append(kids, any4(r, levels-1, holes))
	}
	return n(rank, kids...)
}

// less is t with some of its parts unknown.
func less(r *rand.Rand, t api.Tree, one int) api.Tree {
	if r.Intn(one) == 0 {
		return u()
	}
	var kids []api.Tree
	for _, k := range t.Kids {
		kids = append(kids, less(r, k, one))
	}
	return n(t.Sym, kids...)
}

// A plan of a tree has the symbols of its known nodes, by the paths to them.
type plan map[string]int

func planOf(t api.Tree) plan {
	p := plan{}
	var visit func(path string, t api.Tree)
	visit = func(path string, t api.Tree) {
		if t.Sym != -1 {
			p[path] = t.Sym
		}
		for i, k := range t.Kids {
			visit(path+strconv.Itoa(i), k)
		}
	}
	visit("", t)
	return p
}

// treeOf is the tree of a plan, over symbols of some ranks.
func treeOf(p plan, ranks []int, path string) api.Tree {
	sym, known := p[path]
	if !known {
		return u()
	}
	var kids []api.Tree
	for i := range ranks[sym] {
		kids = append(kids, treeOf(p, ranks, path+strconv.Itoa(i)))
	}
	return n(sym, kids...)
}

// over reports whether the one plan has all that the other one has.
func over(a, b plan) bool {
	for path, sym := range b {
		if other, known := a[path]; !known || other != sym {
			return false
		}
	}
	return true
}

// common is what two plans have in common on all the way from the root.
func common(a, b plan) plan {
	out := plan{}
	for path, sym := range a {
		same := true
		for i := range len(path) + 1 {
			x, ok := a[path[:i]]
			y, too := b[path[:i]]
			same = same && ok && too && x == y
		}
		if same {
			out[path] = sym
		}
	}
	return out
}

// both is what one of two plans has, if they do not contradict one another.
func both(a, b plan) (plan, bool) {
	out := plan{}
	for path, sym := range a {
		out[path] = sym
	}
	for path, sym := range b {
		if other, known := a[path]; known && other != sym {
			return nil, false
		}
		out[path] = sym
	}
	return out, true
}

// roomy is t in new memory, with room behind all kids, which is not empty.
func roomy(t api.Tree) api.Tree {
	out := api.Tree{Sym: t.Sym, Kids: make([]api.Tree, 0, len(t.Kids)+2)}
	for _, k := range t.Kids {
		out.Kids = append(out.Kids, roomy(k))
	}
	copy(out.Kids[len(out.Kids):cap(out.Kids)], []api.Tree{n(77), n(78)})
	return out
}

// whole reports whether t is still as roomy made it.
func whole(t api.Tree) bool {
	behind := t.Kids[len(t.Kids):cap(t.Kids)]
	if len(behind) < 2 || face(behind[0]) != "77" || face(behind[1]) != "78" {
		return false
	}
	return !slices.ContainsFunc(t.Kids, func(k api.Tree) bool { return !whole(k) })
}

// places calls a function for each element of the memory behind t.
func places(t api.Tree, visit func(*api.Tree)) {
	for i := range t.Kids[:cap(t.Kids)] {
		visit(&t.Kids[:cap(t.Kids)][i])
	}
	for _, k := range t.Kids {
		places(k, visit)
	}
}
