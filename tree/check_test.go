package tree_test

import (
	"math"
	"strconv"
	"testing"

	"virgation/api"
	"virgation/tree"
)

// badRanks lists ranks that no symbols have.
func badRanks() [][]int {
	out := [][]int{make([]int, 25), make([]int, 1<<20), {-1}, {5}, {0, 1, 2, 3, 4, 5}, {2, 1, 0, -1}}
	for _, rank := range []int{6, 1 << 32, -1 << 32, 1<<32 + 1, math.MaxInt, math.MinInt} {
		out = append(out, []int{rank}, []int{0, rank, 0}, append(make([]int, 23), rank))
	}
	return out
}

// broken lists trees that are not trees over wide.
func broken() map[string]api.Tree {
	out := map[string]api.Tree{
		"20001 nodes":        bushy(api.MaxTree+1, n(0)),
		"20001 nodes, holes": bushy(api.MaxTree+1, u()),
		"201 levels":         chain(api.MaxHigh+1, n(0)),
		"201 levels, a hole": chain(api.MaxHigh+1, u()),
		"2^62 nodes":         shared(62),
		"2^15 - 1 nodes":     shared(15),
		"65536 levels":       chain(1<<16, n(0)),
		"many kids":          n(4, many(1<<20, u())...),
		"holes with kids":    n(-1, n(0)),
		"holes with 4 kids":  n(-1, many(4, u())...),
		"holes with many":    n(-1, many(1<<20, u())...),
	}
	for _, sym := range []int{-2, 5, 6, 1 << 32, -1 << 32, 1<<32 - 1, math.MaxInt, math.MinInt} {
		out["the symbol "+strconv.Itoa(sym)] = n(sym)
		out["the symbol "+strconv.Itoa(sym)+" with kids"] = n(sym, n(0))
	}
	for rank := range 5 {
		for kids := range 10 {
			if kids != rank {
				out["rank "+strconv.Itoa(rank)+", kids "+strconv.Itoa(kids)] = n(rank, many(kids, n(0))...)
			}
		}
	}
	return out
}

// everywhere lists x, and trees over wide that have it as a part.
func everywhere(x api.Tree) []api.Tree {
	return []api.Tree{x, n(1, x), n(2, u(), x), n(4, x, n(0), u(), n(0)), n(4, n(0), u(), n(0), x), n(3, n(0), n(2, n(1, x), u()), n(0))}
}

// fine lists trees over wide, up to the limits.
func fine() map[string]api.Tree {
	return map[string]api.Tree{
		"unknown":          u(),
		"unknown, empty":   {Sym: -1, Kids: []api.Tree{}},
		"leaf":             n(0),
		"leaf, empty":      {Kids: []api.Tree{}},
		"zero":             {},
		"all ranks":        n(4, n(3, n(0), u(), n(0)), n(2, u(), u()), n(1, n(0)), n(0)),
		"20000 nodes":      bushy(api.MaxTree, n(0)),
		"20000, holes":     bushy(api.MaxTree, u()),
		"200 levels":       chain(api.MaxHigh, n(0)),
		"200, a hole":      chain(api.MaxHigh, u()),
		"both":             full(n(0)),
		"both, holes":      full(u()),
		"16383, in slices": shared(14),
	}
}

// P6.1: Check.
func TestCheck(t *testing.T) {
	for name, x := range fine() {
		if e := tree.Check(wide(), x); e != api.OK {
			t.Errorf("%s: %d", name, e)
		}
	}
	for name, x := range broken() {
		for i, y := range everywhere(x) {
			if e := tree.Check(wide(), y); e != api.ErrTree {
				t.Errorf("%s, %d: %d", name, i, e)
			}
		}
		for _, l := range badRanks() { // ahead of ErrTree
			if e := tree.Check(l, x); e != api.ErrArg {
				t.Errorf("%s, %d ranks: %d", name, len(l), e)
			}
		}
	}
	for _, l := range badRanks() {
		for name, x := range fine() {
			if e := tree.Check(l, x); e != api.ErrArg {
				t.Errorf("%s, %d ranks: %d", name, len(l), e)
			}
		}
	}
}

// Whether a tree is valid depends on the ranks.
func TestCheckRanks(t *testing.T) {
	for _, none := range [][]int{nil, {}} {
		if e := tree.Check(none, u()); e != api.OK {
			t.Error(e)
		}
		for _, x := range []api.Tree{n(0), n(-2), n(-1, u()), n(1)} {
			if e := tree.Check(none, x); e != api.ErrTree {
				t.Error(face(x), e)
			}
		}
	}
	most := make([]int, 24)
	most[23] = 4
	if e := tree.Check(most, n(23, n(22), u(), n(0), n(23, many(4, u())...))); e != api.OK {
		t.Error(e)
	}
	for _, x := range []api.Tree{n(24), n(23), n(23, many(3, u())...), n(22, u())} {
		if e := tree.Check(most, x); e != api.ErrTree {
			t.Error(face(x), e)
		}
	}
	for rank := range 5 {
		for kids := range 6 {
			want := api.ErrTree
			if rank == kids {
				want = api.OK
			}
			if e := tree.Check([]int{rank}, n(0, many(kids, u())...)); e != want {
				t.Error(rank, kids, e)
			}
		}
	}
}

// All small trees over other symbols are valid if and only if they are over these.
func TestCheckAll(t *testing.T) {
	known := map[string]bool{}
	for _, x := range upTo(5, ranks()) {
		known[face(x)] = true
	}
	good := 0
	for _, x := range upTo(5, []int{2, 1, 0, 0, 1, 2}) {
		y := renamed(x)
		want := api.ErrTree
		if known[face(y)] {
			want = api.OK
			good++
		}
		if e := tree.Check(ranks(), y); e != want {
			t.Errorf("%s: %d", face(y), e)
		}
	}
	if good < len(known) {
		t.Error(good, len(known))
	}
}

// renamed is t with symbols that often do not suit their kids.
func renamed(t api.Tree) api.Tree {
	var kids []api.Tree
	for _, k := range t.Kids {
		kids = append(kids, renamed(k))
	}
	if t.Sym > 2 {
		return n(t.Sym-3, kids...) // a symbol that has 2, 1 or 0 kids, and that many other ones
	}
	return n(t.Sym, kids...)
}

// P6.1: Size, of any tree.
func TestSize(t *testing.T) {
	for _, c := range []struct {
		t            api.Tree
		nodes, depth int
	}{
		{u(), 1, 1},
		{api.Tree{}, 1, 1},
		{api.Tree{Sym: -1, Kids: []api.Tree{}}, 1, 1},
		{n(7), 1, 1},
		{n(-3, n(4)), 2, 2},
		{n(-1, u()), 2, 2},
		{n(2, n(0), u()), 3, 2},
		{n(2, n(1, n(0)), u()), 4, 3},
		{n(2, u(), n(1, n(0))), 4, 3},
		{n(3, u(), n(1, n(1, u())), n(1, n(0))), 7, 4},
		{n(math.MaxInt, n(math.MinInt)), 2, 2},
		{n(0, many(api.MaxTree-1, u())...), 20000, 2},
		{n(0, many(api.MaxTree, u())...), 20001, 0},
		{n(0, many(1<<20, u())...), 20001, 0},
		{chain(api.MaxHigh, u()), 200, 200},
		{chain(api.MaxHigh+1, u()), 201, 201},
		{chain(api.MaxTree, n(0)), 20000, 20000},
		{chain(api.MaxTree+1, n(0)), 20001, 0},
		{chain(1<<16, n(0)), 20001, 0},
		{full(u()), 20000, 200},
		{n(1, full(u())), 20001, 0},
		{shared(14), 16383, 14},
		{shared(15), 20001, 0},
		{shared(62), 20001, 0},
		{n(2, shared(62), chain(300, n(0))), 20001, 0},
	} {
		if nodes, depth := tree.Size(c.t); nodes != c.nodes || depth != c.depth {
			t.Errorf("%s: %d %d, not %d %d", short(c.t), nodes, depth, c.nodes, c.depth)
		}
	}
	if nodes, _ := tree.Size(bushy(api.MaxTree, n(0))); nodes != 20000 {
		t.Error(nodes)
	}
	if nodes, depth := tree.Size(bushy(api.MaxTree+1, n(0))); nodes != 20001 || depth != 0 {
		t.Error(nodes, depth)
	}
}

// P6.1: Same, of any trees.
func TestSame(t *testing.T) {
	all := upTo(5, ranks())
	all = append(all, n(7), n(-2), n(-3), n(0), n(0, n(0)), n(0, n(0), n(0), n(0)), n(-1, u()), n(-1, u(), u()), n(2, n(0)), n(math.MaxInt), n(math.MinInt), n(1<<32-1))
	for i, a := range all {
		for j, b := range all {
			if tree.Same(a, b) != (i == j) {
				t.Errorf("%s %s: %v", face(a), face(b), i != j)
			}
		}
	}
	for _, x := range []api.Tree{
		full(n(0)), full(u()), bushy(api.MaxTree, n(0)), chain(api.MaxTree, n(9)), shared(14), n(5, many(api.MaxTree-1, u())...),
	} {
		if !tree.Same(x, roomy(x)) || !tree.Same(roomy(x), x) || tree.Same(x, u()) || tree.Same(u(), x) {
			t.Error(short(x))
		}
	}
	if tree.Same(full(n(0)), full(u())) || tree.Same(chain(api.MaxTree, n(0)), chain(api.MaxTree, n(3))) || tree.Same(chain(300, n(0)), chain(301, n(0))) {
		t.Error("different trees are the same")
	}
	for name, x := range map[string]api.Tree{
		"bushy": bushy(api.MaxTree+1, n(0)), "chain": chain(api.MaxTree+1, n(0)), "2^62 nodes": shared(62), "2^15 - 1 nodes": shared(15),
		"65536 levels": chain(1<<16, n(0)), "many kids": n(0, many(1<<20, u())...),
	} {
		if tree.Same(x, x) || tree.Same(x, u()) || tree.Same(u(), x) || tree.Same(n(1, x), n(1, x)) {
			t.Errorf("%s: a tree that is too large is the same as another one", name)
		}
	}
}
