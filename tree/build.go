package tree

import "virgation/api"

// Meet returns the greatest tree than which a and b are both at least.
func Meet(ranks []int, a, b api.Tree) (api.Tree, api.Errno) {
	if e := check(ranks, a, b); e != api.OK {
		return api.Tree{}, e
	}
	m := merge(a, b, func(api.Tree, api.Tree) api.Tree { return api.Tree{Sym: unknown} })
	return m, api.OK
}

// Join returns the least tree that is at least a and b.
func Join(ranks []int, a, b api.Tree) (api.Tree, api.Errno) {
	if e := check(ranks, a, b); e != api.OK {
		return api.Tree{}, e
	}
	agree := true
	j := merge(a, b, func(x, y api.Tree) api.Tree {
		if x.Sym == unknown {
			return fresh(y)
		}
		agree = agree && y.Sym == unknown
		return fresh(x)
	})
	if !agree {
		return api.Tree{}, api.ErrNone
	}
	if !small(j) { // it is never deeper than a and b
		return api.Tree{}, api.ErrLimit
	}
	return j, api.OK
}

// Cut returns t with everything unknown that lies below the first depth levels.
func Cut(ranks []int, t api.Tree, depth int) (api.Tree, api.Errno) {
	if e := check(ranks, t); e != api.OK {
		return api.Tree{}, e
	}
	if depth < 0 {
		return api.Tree{}, api.ErrArg
	}
	return cut(t, depth), api.OK
}

// At returns the part of t at the end of a path of numbers of kids.
func At(ranks []int, t api.Tree, path []int) (api.Tree, api.Errno) {
	if e := check(ranks, t); e != api.OK {
		return api.Tree{}, e
	}
	for _, n := range path {
		if n < 0 || n >= len(t.Kids) {
			return api.Tree{}, api.ErrNone
		}
		t = t.Kids[n]
	}
	return fresh(t), api.OK
}

// merge returns what a and b have in common from the root on; what stands where they differ is said by a function, in new memory.
func merge(a, b api.Tree, differ func(a, b api.Tree) api.Tree) api.Tree {
	if a.Sym != b.Sym {
		return differ(a, b)
	}
	kid := func(i int) api.Tree { return merge(a.Kids[i], b.Kids[i], differ) }
	return api.Tree{Sym: a.Sym, Kids: list(len(a.Kids), kid)}
}

func cut(t api.Tree, depth int) api.Tree {
	if depth == 0 {
		return api.Tree{Sym: unknown}
	}
	kid := func(i int) api.Tree { return cut(t.Kids[i], depth-1) }
	return api.Tree{Sym: t.Sym, Kids: list(len(t.Kids), kid)}
}

// fresh returns t in new memory.
func fresh(t api.Tree) api.Tree {
	kid := func(i int) api.Tree { return fresh(t.Kids[i]) }
	return api.Tree{Sym: t.Sym, Kids: list(len(t.Kids), kid)}
}

// list returns n trees, each made of its place.
func list(n int, made func(int) api.Tree) []api.Tree {
	if n == 0 {
		return nil
	}
	out := make([]api.Tree, 0, n)
	for i := range n {
		out = append(out, made(i))
	}
	return out
}
