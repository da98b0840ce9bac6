package grow_test

import (
	"math"
	"math/rand"
	"strings"
	"testing"

	"virgation/api"
	"virgation/grow"
	"virgation/tree"
)

// P7.1: the document's example, and others of the same scheme.
func TestTree(t *testing.T) {
	x := get(t, sums)
	for _, c := range []struct {
		depth, fuel int
		want        string
	}{
		{0, 0, "_"}, {0, 2, "_"}, {0, api.MaxSteps, "_"},
		{1, 0, "_"}, {3, 0, "_"}, {1, 1, "_"}, {3, 1, "_"}, {199, 1, "_"}, {200, 1, "_"},
		{1, 2, "a(_,_)"}, {2, 2, "a(c,a(_,_))"}, {3, 2, "a(c,a(b(_),a(_,_)))"}, {3, 3, "a(c,a(b(_),a(_,_)))"},
		{3, api.MaxSteps, "a(c,a(b(_),a(_,_)))"},
		{5, 2, "a(c,a(b(c),a(b(b(_)),a(b(_),a(_,_)))))"},
	} {
		gives(t, x, f(0), c.depth, c.fuel, c.want)
	}
	gives(t, x, f(1, f(0)), 3, 1, "a(_,a(b(_),a(_,_)))") // where s stands there are no two steps
	gives(t, x, f(1, f(0)), 3, 2, "a(a(c,a(_,_)),a(b(_),a(_,_)))")
	gives(t, x, s(0, s(2), f(1, s(2))), 2, 0, "a(c,_)")
	gives(t, x, s(2), 1, 0, "c")
	gives(t, x, s(2), 0, 0, "_")
	gives(t, x, s(1, s(1, s(2))), 2, 0, "b(b(_))")
	gives(t, x, s(1, s(1, s(2))), 200, 0, "b(b(c))")
}

// The fuel is there for each node, however much the nodes above have used.
func TestTreeFuel(t *testing.T) {
	x := get(t, signs+"fun s : o = #a (d #c) (d (d #c))\nfun d : o > o = $0\n")
	for fuel, want := range []string{"_", "a(c,_)", "a(c,c)", "a(c,c)"} {
		gives(t, x, f(0), 2, fuel, want)
	}
	x = powers(t, "#a (p3 #c) (#b (p2 (#b (p4 s))))") // 15, 7, 31 steps, and 1 more
	for fuel, want := range map[int]string{
		6: "a(_,b(_))", 7: "a(_,b(b(_)))", 14: "a(_,b(b(_)))", 15: "a(c,b(b(_)))", 31: "a(c,b(b(_)))", 32: "a(c,b(b(a(_,_))))",
	} {
		gives(t, x, f(0), 4, fuel, want)
	}
	x = powers(t, "p19 #c") // 2^20 - 1 steps, and 1
	gives(t, x, f(0), 1, api.MaxSteps, "c")
	gives(t, x, f(0), 1, api.MaxSteps-1, "_")
	gives(t, x, s(1, f(0)), 9, api.MaxSteps, "b(c)")
}

// What is never done, or becomes too large on the way, is unknown.
func TestTreeUnknown(t *testing.T) {
	x := get(t, signs+"fun s : o = #a (g #c) (#b loop)\nfun loop : o = loop\nfun g : o > o = g (#a $0 $0)\nfun h : o > o = k #c (l $0)\nfun l : o > o = #a $0 $0\nfun k : o > o > o = $0\n")
	for _, fuel := range []int{1, 17, 18, 1000, api.MaxSteps} {
		gives(t, x, f(0), 9, fuel, "a(_,b(_))")
	}
	gives(t, x, s(0, f(1), f(2, s(2))), 200, 100, "a(_,_)")
	half := api.MaxSize / 2
	gives(t, x, f(3, bushy(half, s(2))), 9, 9, "c") // what is dropped was not reduced
	gives(t, x, f(4, bushy(half, s(2))), 1, 9, "_")
	gives(t, x, f(4, bushy(half-1, s(2))), 1, 9, "a(_,_)")
	gives(t, x, s(1, f(4, bushy(half, s(2)))), 1, 9, "b(_)")
	gives(t, x, s(0, f(4, bushy(half-2, s(2))), s(2)), 2, 9, "a(a(_,_),c)")
	gives(t, x, bushy(api.MaxSize, s(2)), 1, 9, "a(_,_)")

	x = get(t, signs+"fun s : o = #c\nfun g : o > o = k #c (#a $0 $0)\nfun k : o > o > o = $0\n")
	gives(t, x, f(1, bushy(half, s(2))), 3, 9, "_") // though it would be done after another step
	gives(t, x, f(1, bushy(half-2, s(2))), 3, 9, "c")
}

// Functions of higher orders.
func TestTreeOrders(t *testing.T) {
	x := get(t, signs+`fun s : o = twice (twice add) zero
fun zero : o = #c
fun add : o > o = if (#a #c) k $0
fun twice : (o > o) > o > o = $0 ($0 $1)
fun if : (o > o) > (o > o > o) > o > o = $1 (#b $2) ($0 $2)
fun k : o > o > o = $0
`)
	gives(t, x, f(0), 9, 6, "b(b(b(b(c))))")
	gives(t, x, f(0), 9, 5, "_")
	gives(t, x, f(0), 3, 9, "b(b(b(_)))")
	gives(t, x, read(t, x, "if (#a zero) #a (add #c)"), 3, 4, "a(b(b(_)),a(c,b(_)))")

	// Terms with the same heads, in the same order, are not the same terms.
	x = get(t, signs+"fun s : o = #a (g (h #c) #c) (g (k h #c) #c)\nfun g : (o > o) > o > o = $0 $1\nfun h : o > o > o = #a $0 $1\nfun k : (o > o > o) > o > o > o = #b ($0 $1 $2)\n")
	gives(t, x, f(0), 4, 9, "a(a(c,c),b(a(c,c)))")
}

// The depth and the fuel have limits.
func TestTreeArguments(t *testing.T) {
	x := get(t, sums)
	wrong := []int{-1, -2, math.MinInt, -1 << 32, 1 << 32, 1<<32 + 1, math.MaxInt}
	for _, y := range []api.Term{f(0), s(2), f(1, s(2)), bushy(api.MaxSize, s(2))} {
		for _, n := range append(wrong, api.MaxHigh+1, api.MaxHigh+2, api.MaxSteps) {
			fails(t, x, y, n, 2, api.ErrArg)
			fails(t, x, y, n, 0, api.ErrArg)
			fails(t, x, y, n, -1, api.ErrArg)
		}
		for _, n := range append(wrong, api.MaxSteps+1, api.MaxSteps+2) {
			fails(t, x, y, 2, n, api.ErrArg)
			fails(t, x, y, 0, n, api.ErrArg)
			fails(t, x, y, api.MaxHigh, n, api.ErrArg)
		}
	}
}

// ErrScheme comes ahead of ErrLimit, this ahead of ErrSort, and all of them ahead of ErrArg.
func TestTreeCheck(t *testing.T) {
	x := get(t, sums)
	for _, n := range [][2]int{{0, 0}, {2, 2}, {200, api.MaxSteps}, {-1, 2}, {201, 2}, {2, -1}, {2, api.MaxSteps + 1}} {
		for _, y := range []api.Term{{}, v(0), f(1), s(0), s(2, s(2)), f(2), s(3), f(-1), {Kind: 3}, f(0, s(2)), f(1, f(1)), s(1, v(0))} {
			fails(t, x, y, n[0], n[1], api.ErrSort)
		}
		for _, y := range []api.Term{shared(17), shared(62), chain(api.MaxSize+1, s(2)), bushy(api.MaxSize+1, v(0)), f(0, many(api.MaxSize, s(2))...)} {
			fails(t, x, y, n[0], n[1], api.ErrLimit)
		}
		for _, y := range broken() {
			for _, z := range []api.Term{f(0), s(0), v(0), shared(62), {Kind: 7}} {
				fails(t, y, z, n[0], n[1], api.ErrScheme)
			}
		}
	}
}

// A tree with more than MaxHigh levels, also if the last one is unknown because of the depth, is none.
func TestTreeHigh(t *testing.T) {
	x := get(t, signs+"fun s : o = #b s\nfun loop : o = loop\n")
	bs := func(n int, end string) string { return strings.Repeat("b(", n) + end + strings.Repeat(")", n) }
	gives(t, x, f(0), 199, 1, bs(199, "_"))
	gives(t, x, f(0), 198, api.MaxSteps, bs(198, "_"))
	gives(t, x, f(0), 200, 0, "_")
	fails(t, x, f(0), 200, 1, api.ErrLimit)
	fails(t, x, f(0), 200, api.MaxSteps, api.ErrLimit)
	gives(t, x, chain(200, s(2)), 200, 0, bs(199, "c"))
	gives(t, x, chain(200, f(1)), 200, 5, bs(199, "_")) // it is not done: there are no levels behind it
	gives(t, x, chain(200, f(0)), 199, 5, bs(199, "_"))
	fails(t, x, chain(200, f(0)), 200, 5, api.ErrLimit)
	for _, leaf := range []api.Term{s(2), f(0), f(1)} {
		fails(t, x, chain(201, leaf), 200, 0, api.ErrLimit)
		gives(t, x, chain(201, leaf), 199, 0, bs(199, "_"))
	}
	fails(t, x, s(0, s(2), chain(200, s(2))), 200, 0, api.ErrLimit)
	fails(t, x, s(0, chain(200, s(2)), f(1)), 200, 0, api.ErrLimit)
	gives(t, x, s(0, chain(199, s(2)), chain(2, s(2))), 200, 0, "a("+bs(198, "c")+",b(c))")
}

// A tree with more than MaxTree nodes, the unknown ones among them, is none.
func TestTreeLarge(t *testing.T) {
	x := get(t, signs+"fun s : o = #a s s\nfun loop : o = loop\n")
	for _, leaf := range []api.Term{s(2), f(1)} {
		for _, n := range []int{api.MaxTree - 2, api.MaxTree - 1, api.MaxTree} {
			y := bushy(n, leaf)
			z, e := grow.From(x, y, api.MaxHigh, 1)
			if nodes, _ := tree.Size(z); nodes != n || e != api.OK || face(z) != face(grown(t, x, y, 200, 1)) {
				t.Errorf("%d nodes, not %d; %d", nodes, n, e)
			}
		}
		for _, n := range []int{api.MaxTree + 1, api.MaxTree + 2, 2 * api.MaxTree, api.MaxSize} {
			fails(t, x, bushy(n, leaf), api.MaxHigh, 1, api.ErrLimit)
		}
	}
	for depth := range api.MaxHigh + 1 {
		if depth >= 14 {
			fails(t, x, f(0), depth, 1, api.ErrLimit)
			gives(t, x, f(0), depth, 0, "_")
			continue
		}
		z, e := grow.Tree(x, depth, 1)
		if nodes, high := tree.Size(z); nodes != 2<<depth-1 || high != depth+1 || e != api.OK {
			t.Errorf("%d: %d nodes, %d levels, %d", depth, nodes, high, e)
		}
	}
	x = get(t, "symbol q 4\nfun s : o = #q s s s s\n")
	fails(t, x, f(0), 7, 1, api.ErrLimit) // (4^8 - 1) / 3 nodes
	z, e := grow.Tree(x, 6, 1)
	if nodes, _ := tree.Size(z); nodes != 5461 || e != api.OK {
		t.Error(nodes, e)
	}
}

// Terms that occur often are reduced once: else these tests would not end in any bearable time.
func TestTreeOften(t *testing.T) {
	x := powers(t, "#a (p18 s) (#a (p18 #c) (p18 s))")
	z, e := grow.Tree(x, 12, api.MaxSteps)
	if nodes, high := tree.Size(z); nodes < 1000 || high != 13 || e != api.OK {
		t.Error(nodes, high, e)
	}
	fails(t, x, f(0), 200, api.MaxSteps, api.ErrLimit)
	at(t, x, many(200, 0), api.MaxSteps, 0, api.OK)

	x = get(t, signs+"fun s : o = #a loop s\nfun loop : o = loop\nfun f : o > o = #a (f (#b $0)) (f (#b $0))\n")
	gives(t, x, f(0), 199, api.MaxSteps, strings.Repeat("a(_,", 199)+"_"+strings.Repeat(")", 199))
	for _, big := range []api.Term{chain(api.MaxSize/2-100, s(2)), bushy(api.MaxSize/2-100, s(2))} {
		z, e = grow.From(x, f(2, big), 13, 5)
		if nodes, high := tree.Size(z); nodes != 1<<14-1 || high != 14 || e != api.OK {
			t.Error(nodes, high, e)
		}
		fails(t, x, f(2, big), 20, api.MaxSteps, api.ErrLimit)
	}
}

// The largest schemes have trees, too.
func TestTreeOfLargest(t *testing.T) {
	x := api.Scheme{Syms: append([]api.Symbol{{Name: "a", Rank: 2}, {Name: "b", Rank: 1}, {Name: "c"}}, numbered(20, 3)...)}
	x.Syms = append(x.Syms, api.Symbol{Name: "q", Rank: 4})
	for i, y := range loops(64) {
		next := f(min(i+1, 63))
		if i > 0 {
			y.Sort = of(many(8, of(many(5, of())...))...)
			next.Args = nil
			for k := range 8 {
				next.Args = append(next.Args, v((k+1)%8))
			}
		}
		if i == 0 {
			y.Body = s(23, s(2), s(2), s(2), bushy(api.MaxBody-4, s(2)))
		} else {
			y.Body = s(23, next, v(i%8, many(5, s(2))...), s(2), bushy(api.MaxBody-17, s(2)))
		}
		x.Funs = append(x.Funs, y)
	}
	gives(t, x, f(0), 2, 1, "q(c,c,c,a(_,_))")
	z, e := grow.Tree(x, 200, 1)
	if nodes, _ := tree.Size(z); nodes != api.MaxBody || e != api.OK {
		t.Error(nodes, e)
	}
}

// P7.1 of many terms of many schemes.
func TestTreeRandom(t *testing.T) {
	r := rand.New(rand.NewSource(71))
	met := map[api.Errno]int{}
	mixed, large := 0, 0
	for range 800 {
		x, w := random(r)
		y := w.closed(4)
		for _, n := range [][2]int{{0, 3}, {1, 3}, {2, 1}, {3, 2}, {4, 9}, {5, 0}, {5, 30}, {6, 4}} {
			want := grown(t, x, y, n[0], n[1])
			nodes, _ := tree.Size(want)
			z, e := grow.From(x, y, n[0], n[1])
			if nodes > api.MaxTree {
				fails(t, x, y, n[0], n[1], api.ErrLimit)
			} else if !tree.Same(z, want) || e != api.OK {
				t.Fatalf("%d, %d: %.200s %d, not %.200s", n[0], n[1], face(z), e, face(want))
			}
			met[e]++
			if text := face(want); strings.Count(text, "-1") > 2 && strings.Count(text, "2") > 2 {
				mixed++
			}
			large = max(large, nodes)
		}
		start, e := grow.From(x, f(0), 4, 9)
		z, g := grow.Tree(x, 4, 9)
		if face(start) != face(z) || e != g {
			t.Fatal(face(start), face(z), e, g)
		}
	}
	if met[api.OK] < 5000 || mixed < 300 || large < 200 {
		t.Error(met, mixed, large)
	}
}
