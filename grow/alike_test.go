package grow_test

import (
	"math"
	"math/rand"
	"testing"

	"virgation/api"
	"virgation/tree"
)

// P7.3: schemes that grow to trees that have a tree above both, or none.
func TestAlike(t *testing.T) {
	x := get(t, sums)
	y := get(t, signs+"fun s : o = #a #c s\n") // a(c,a(c,a(c,..)))
	alike(t, x, y, 0, 5, true, api.OK)
	alike(t, x, y, 2, 5, true, api.OK)
	alike(t, x, y, 3, 5, false, api.OK)
	alike(t, x, y, 3, 2, false, api.OK)
	alike(t, x, y, 3, 1, true, api.OK) // nothing of x is known
	alike(t, x, y, 3, 0, true, api.OK)
	for _, depth := range []int{0, 1, 5, 20, 100} {
		for _, fuel := range []int{0, 1, 2, 3, 100, api.MaxSteps} {
			alike(t, x, x, depth, fuel, true, api.OK)
			alike(t, y, y, depth, fuel, true, api.OK)
		}
	}
	alike(t, y, y, 199, 1, true, api.OK)
	alike(t, get(t, "fun s : o = s\n"), get(t, "fun s : o = t\nfun t : o = s\n"), 200, api.MaxSteps, true, api.OK)

	loop := get(t, signs+"fun s : o = s\n")
	left := get(t, signs+"fun s : o = #a #c loop\nfun loop : o = loop\n")
	right := get(t, signs+"fun s : o = #a loop (#b #c)\nfun loop : o = loop\n")
	other := get(t, signs+"fun s : o = #a loop #c\nfun loop : o = loop\n")
	wrong := get(t, signs+"fun s : o = #b loop\nfun loop : o = loop\n")
	for _, z := range []api.Scheme{left, right, other, x, y} {
		alike(t, loop, z, 50, 100, true, api.OK)
		alike(t, wrong, z, 50, 100, false, api.OK)
	}
	alike(t, loop, wrong, 50, 100, true, api.OK)
	alike(t, left, right, 9, 9, true, api.OK)
	alike(t, left, other, 9, 9, true, api.OK)
	alike(t, right, other, 9, 9, false, api.OK)
	alike(t, right, other, 2, 9, false, api.OK)
	alike(t, right, other, 1, 9, true, api.OK)
}

// The names of the symbols may differ, their ranks may not.
func TestAlikeSymbols(t *testing.T) {
	x := get(t, "symbol a 2\nsymbol b 1\nsymbol c 0\nfun s : o = #a #c s\n")
	y := get(t, "symbol c 2\nsymbol a 1\nsymbol b 0\nfun f : o = #c g f\nfun g : o = #b\n")
	alike(t, x, y, 99, 9, true, api.OK)
	alike(t, x, get(t, "symbol c 2\nsymbol a 1\nsymbol b 0\nfun f : o = #c (#a g) f\nfun g : o = #b\n"), 99, 9, false, api.OK)
	for _, z := range []string{
		"", "symbol a 2\n", "symbol a 2\nsymbol b 1\n", "symbol a 2\nsymbol c 0\nsymbol b 1\n", "symbol a 2\nsymbol b 1\nsymbol c 1\n",
		"symbol a 3\nsymbol b 1\nsymbol c 0\n", signs + "symbol d 0\n",
	} {
		other := get(t, z+"fun s : o = s\n")
		for _, n := range [][2]int{{0, 0}, {9, 9}, {200, api.MaxSteps}, {-1, 9}, {9, -1}} {
			alike(t, x, other, n[0], n[1], false, api.ErrArg)
		}
	}
	alike(t, get(t, "symbol c 0\nsymbol d 0\nfun s : o = #c\n"), get(t, "symbol d 0\nsymbol c 0\nfun s : o = #d\n"), 9, 9, true, api.OK)
	alike(t, get(t, "symbol c 0\nsymbol d 0\nfun s : o = #c\n"), get(t, "symbol c 0\nsymbol d 0\nfun s : o = #d\n"), 9, 9, false, api.OK)
}

// ErrScheme comes ahead of ErrArg, this ahead of ErrLimit.
func TestAlikeErrors(t *testing.T) {
	x := get(t, sums)
	large := get(t, signs+"fun s : o = #a s s\n")
	for _, n := range []int{-1, math.MinInt, -1 << 32, 1 << 32, 1<<32 + 1, math.MaxInt} {
		for _, y := range []api.Scheme{x, large} {
			alike(t, x, y, n, 9, false, api.ErrArg)
			alike(t, x, y, 9, n, false, api.ErrArg)
			alike(t, x, y, n, n, false, api.ErrArg)
			alike(t, x, y, 200, n, false, api.ErrArg)
		}
	}
	alike(t, large, large, api.MaxHigh+1, 9, false, api.ErrArg)
	alike(t, large, large, api.MaxHigh, api.MaxSteps+1, false, api.ErrArg)
	for _, y := range broken() {
		for _, n := range [][2]int{{9, 9}, {-1, 9}, {9, api.MaxSteps + 1}, {201, 0}, {200, 9}} {
			alike(t, x, y, n[0], n[1], false, api.ErrScheme)
			alike(t, large, y, n[0], n[1], false, api.ErrScheme)
			alike(t, y, y, n[0], n[1], false, api.ErrScheme)
		}
	}
}

// ErrLimit where one of both is no finite tree, even if they differ; what is above both may be too large.
func TestAlikeLarge(t *testing.T) {
	x := get(t, signs+"fun s : o = #c\n")
	wide := get(t, signs+"fun s : o = #a s s\n")
	high := get(t, signs+"fun s : o = #b s\n")
	alike(t, x, wide, 14, 1, false, api.ErrLimit)
	alike(t, x, wide, 13, 1, false, api.OK)
	alike(t, x, wide, 14, 0, true, api.OK)
	alike(t, wide, wide, 13, 1, true, api.OK)
	alike(t, wide, wide, 14, 1, false, api.ErrLimit)
	alike(t, x, high, 200, 1, false, api.ErrLimit)
	alike(t, x, high, 199, 1, false, api.OK)
	alike(t, high, high, 199, 1, true, api.OK)
	alike(t, high, wide, 200, 1, false, api.ErrLimit)

	rest := "fun loop : o = loop\nfun many : o = #a many many\n"
	left := get(t, signs+"fun s : o = #a many loop\n"+rest)
	right := get(t, signs+"fun s : o = #a loop many\n"+rest)
	alike(t, left, right, 14, 1, true, api.OK) // 2^15 - 1 nodes
	left = get(t, signs+"symbol t 3\nfun s : o = #t many loop #c\n"+rest)
	right = get(t, signs+"symbol t 3\nfun s : o = #t loop many (#b #c)\n"+rest)
	alike(t, left, right, 14, 1, false, api.OK)
	alike(t, left, right, 15, 1, false, api.ErrLimit)
}

// above reports whether there is a tree that is at least both, as the document describes it.
func above(x, y api.Tree) bool {
	if x.Sym == -1 || y.Sym == -1 {
		return true
	}
	if x.Sym != y.Sym {
		return false
	}
	for i := range x.Kids {
		if !above(x.Kids[i], y.Kids[i]) {
			return false
		}
	}
	return true
}

// P7.3 of many schemes, and of schemes that differ little.
func TestAlikeRandom(t *testing.T) {
	r := rand.New(rand.NewSource(73))
	met := map[bool]int{}
	for range 250 {
		x, w := random(r)
		y, _ := random(r)
		near := api.Scheme{Syms: x.Syms, Funs: append([]api.Fun{}, x.Funs...)}
		k := r.Intn(len(x.Funs))
		near.Funs[k].Body = w.body(near.Funs[k].Sort.Args, 3)
		for _, z := range []api.Scheme{x, y, near} {
			for _, n := range [][2]int{{1, 5}, {3, 3}, {4, 1}, {5, 9}} {
				a, b := grown(t, x, f(0), n[0], n[1]), grown(t, z, f(0), n[0], n[1])
				if size(a) > api.MaxTree || size(b) > api.MaxTree {
					continue
				}
				want := above(a, b)
				alike(t, x, z, n[0], n[1], want, api.OK)
				if face(a) != face(b) && a.Sym != -1 && b.Sym != -1 {
					met[want]++
				}
			}
		}
	}
	if met[true] < 30 || met[false] < 200 {
		t.Error(met)
	}
}

// size counts the nodes of a tree that is not too large.
func size(x api.Tree) int {
	n, _ := tree.Size(x)
	return n
}
