package tree_test

import (
	"math/rand"
	"testing"

	"virgation/api"
	"virgation/tree"
)

// atLeast calls AtLeast with trees over symbols of some ranks.
func atLeast(t *testing.T, ranks []int, a, b api.Tree) bool {
	t.Helper()
	is, e := tree.AtLeast(ranks, a, b)
	if e != api.OK {
		t.Errorf("%s %s: %d", short(a), short(b), e)
	}
	return is
}

// P6.2 of all pairs of small trees, held against their plans.
func TestPairs(t *testing.T) {
	all := upTo(6, ranks())
	none := 0
	for _, a := range all {
		p := planOf(a)
		for _, b := range all {
			q := planOf(b)
			if is, e := tree.AtLeast(ranks(), a, b); is != over(p, q) || e != api.OK {
				t.Errorf("%s %s: %v %d", face(a), face(b), is, e)
			}
			if m, e := tree.Meet(ranks(), a, b); face(m) != face(treeOf(common(p, q), ranks(), "")) || e != api.OK {
				t.Errorf("%s %s: %s %d", face(a), face(b), face(m), e)
			}
			j, e := tree.Join(ranks(), a, b)
			k, ok := both(p, q)
			if !ok {
				none++
				if face(j) != "0" || e != api.ErrNone {
					t.Errorf("%s %s: %s %d", face(a), face(b), face(j), e)
				}
			} else if face(j) != face(treeOf(k, ranks(), "")) || e != api.OK {
				t.Errorf("%s %s: %s %d", face(a), face(b), face(j), e)
			}
		}
	}
	if none == 0 || none == len(all)*len(all) {
		t.Error(none)
	}
}

// P6.5 of all triples of small trees.
func TestTheorems(t *testing.T) {
	all := upTo(5, ranks())
	below := map[[2]int]bool{}
	for i, a := range all {
		for j, b := range all {
			below[[2]int{i, j}] = atLeast(t, ranks(), b, a)
			if i == j && !below[[2]int{i, j}] {
				t.Error("not reflexive", face(a))
			}
		}
	}
	number := map[string]int{}
	for i, x := range all {
		number[face(x)] = i
	}
	for i, a := range all {
		for j, b := range all {
			if i != j && below[[2]int{i, j}] && below[[2]int{j, i}] {
				t.Error("two that are at least one another", face(a), face(b))
			}
			m, _ := tree.Meet(ranks(), a, b)
			meet, known := number[face(m)]
			if !known || !below[[2]int{meet, i}] || !below[[2]int{meet, j}] {
				t.Error("a Meet that is not below", face(a), face(b), face(m))
			}
			join, e := tree.Join(ranks(), a, b)
			if e == api.OK && (!atLeast(t, ranks(), join, a) || !atLeast(t, ranks(), join, b)) {
				t.Error("a Join that is below", face(a), face(b), face(join))
			}
			for k, c := range all {
				if below[[2]int{i, j}] && below[[2]int{j, k}] && !below[[2]int{i, k}] {
					t.Error("not transitive", face(a), face(b), face(c))
				}
				if below[[2]int{k, i}] && below[[2]int{k, j}] && !below[[2]int{k, meet}] {
					t.Error("not the greatest", face(a), face(b), face(c))
				}
				if below[[2]int{i, k}] && below[[2]int{j, k}] && (e != api.OK || !atLeast(t, ranks(), c, join)) {
					t.Error("not the least", face(a), face(b), face(c))
				}
			}
		}
	}
}

// P6.2 and P6.5 of random trees.
func TestRandom(t *testing.T) {
	r := rand.New(rand.NewSource(6))
	agreed, contrary := 0, 0
	for range 400 {
		whole := any4(r, 7, false)
		a, b := less(r, whole, 2+r.Intn(20)), less(r, whole, 2+r.Intn(20))
		if r.Intn(3) == 0 {
			b = less(r, any4(r, 7, true), 10)
		}
		p, q := planOf(a), planOf(b)
		m, e := tree.Meet(wide(), a, b)
		if face(m) != face(treeOf(common(p, q), wide(), "")) || e != api.OK {
			t.Fatal(face(a), face(b), face(m), e)
		}
		if is := atLeast(t, wide(), a, b); is != over(p, q) {
			t.Fatal(face(a), face(b), is)
		}
		j, e := tree.Join(wide(), a, b)
		k, ok := both(p, q)
		switch {
		case !ok && (e != api.ErrNone || face(j) != "0"):
			t.Fatal(face(a), face(b), e)
		case !ok:
			contrary++
			continue
		case e != api.OK || face(j) != face(treeOf(k, wide(), "")):
			t.Fatal(face(a), face(b), face(j), e)
		}
		agreed++
		if !atLeast(t, wide(), j, a) || !atLeast(t, wide(), j, b) || !atLeast(t, wide(), a, m) || !atLeast(t, wide(), b, m) {
			t.Fatal(face(a), face(b))
		}
		if x, _ := tree.Meet(wide(), a, j); !tree.Same(x, a) { // each of them is the part of the other that they have in common
			t.Fatal(face(a), face(x))
		}
		if x, _ := tree.Join(wide(), a, m); !tree.Same(x, a) {
			t.Fatal(face(a), face(x))
		}
	}
	if agreed < 50 || contrary < 50 {
		t.Error(agreed, contrary)
	}
}

// P6.2: a join may be too large, although there is one.
func TestJoinLarge(t *testing.T) {
	half := bushy(api.MaxTree/2, n(0)) // 10000 nodes
	less := bushy(api.MaxTree/2-1, n(0))
	for _, c := range []struct {
		a, b api.Tree
		want api.Errno
	}{
		{n(2, half, u()), n(2, u(), half), api.ErrLimit}, // 20001 nodes
		{n(2, half, u()), n(2, u(), less), api.OK},       // 20000 nodes
		{n(2, less, u()), n(2, u(), half), api.OK},
		{n(2, u(), half), n(2, less, u()), api.OK},
		{n(3, u(), half, n(0)), n(3, less, u(), u()), api.ErrLimit},
		{n(2, bushy(api.MaxTree-2, n(0)), u()), n(2, u(), bushy(api.MaxTree-2, n(0))), api.ErrLimit}, // 39997 nodes
		{full(u()), full(u()), api.OK},
		{full(u()), full(n(0)), api.OK},
		{full(n(0)), u(), api.OK},
		{u(), full(n(0)), api.OK},
		{chain(api.MaxHigh, u()), chain(api.MaxHigh, n(0)), api.OK},
		{chain(9, u()), chain(api.MaxHigh, n(0)), api.OK},
		// What has no join is not too large, wherever it is that the trees differ.
		{n(3, half, u(), n(0)), n(3, u(), half, n(1, u())), api.ErrNone},
		{n(3, n(0), half, u()), n(3, n(1, u()), u(), half), api.ErrNone},
		{n(3, half, n(1, n(0)), u()), n(3, u(), n(1, n(1, n(0))), half), api.ErrNone},
		{full(n(0)), n(1, full(n(0)).Kids[1]), api.ErrNone},
	} {
		j, e := tree.Join(wide(), c.a, c.b)
		if e != c.want || e != api.OK && face(j) != "0" {
			t.Errorf("%s %s: %d, not %d", short(c.a), short(c.b), e, c.want)
		}
		if e != api.OK {
			continue
		}
		if nodes, _ := tree.Size(j); nodes > api.MaxTree || tree.Check(wide(), j) != api.OK || !atLeast(t, wide(), j, c.a) || !atLeast(t, wide(), j, c.b) {
			t.Errorf("%s %s: %s", short(c.a), short(c.b), short(j))
		}
		if m, e := tree.Meet(wide(), j, c.a); !tree.Same(m, c.a) || e != api.OK {
			t.Error(short(c.a), short(m), e)
		}
	}
}

// The document's example.
func TestExample(t *testing.T) {
	for _, c := range []struct {
		a, b, meet, join string
		e                api.Errno
	}{
		{"a(c,_)", "a(b(c),c)", "a(_,_)", "", api.ErrNone},
		{"a(c,_)", "a(_,c)", "a(_,_)", "a(c,c)", api.OK},
		{"_", "_", "_", "_", api.OK},
		{"_", "c", "_", "c", api.OK},
		{"c", "b(c)", "_", "", api.ErrNone},
		{"c", "c", "c", "c", api.OK},
		{"b(_)", "b(a(_,c))", "b(_)", "b(a(_,c))", api.OK},
		{"a(b(_),b(c))", "a(b(b(_)),b(_))", "a(b(_),b(_))", "a(b(b(_)),b(c))", api.OK},
		{"a(b(b(c)),_)", "a(b(b(b(_))),c)", "a(b(b(_)),_)", "", api.ErrNone},
	} {
		for range 2 {
			c.a, c.b = c.b, c.a
			m, e := tree.Meet(ranks(), get(t, c.a), get(t, c.b))
			if face(m) != face(get(t, c.meet)) || e != api.OK {
				t.Error(c.a, c.b, face(m), e)
			}
			j, e := tree.Join(ranks(), get(t, c.a), get(t, c.b))
			if e != c.e || e == api.OK && face(j) != face(get(t, c.join)) || e != api.OK && face(j) != "0" {
				t.Error(c.a, c.b, face(j), e)
			}
		}
	}
}

// The errors of ranks and trees come first, tree by tree; there is no result with them.
func TestErrors(t *testing.T) {
	for name, x := range broken() {
		for _, l := range append(badRanks(), wide()) {
			want := api.ErrArg
			if len(l) == 5 {
				want = api.ErrTree
			}
			for _, pair := range [][2]api.Tree{{x, x}, {x, u()}, {u(), x}, {n(2, n(0), x), n(2, n(1, n(0)), u())}, {n(0), n(1, x)}} {
				if is, e := tree.AtLeast(l, pair[0], pair[1]); is || e != want {
					t.Errorf("%s: %v %d", name, is, e)
				}
				if m, e := tree.Meet(l, pair[0], pair[1]); face(m) != "0" || e != want {
					t.Errorf("%s: %s %d", name, face(m), e)
				}
				if j, e := tree.Join(l, pair[0], pair[1]); face(j) != "0" || e != want {
					t.Errorf("%s: %s %d", name, face(j), e)
				}
			}
			for _, number := range []int{-1, 0, 1, 3} { // also ahead of what is wrong with a depth or a path
				if c, e := tree.Cut(l, x, number); face(c) != "0" || e != want {
					t.Errorf("%s: %s %d", name, face(c), e)
				}
				if p, e := tree.At(l, x, []int{number}); face(p) != "0" || e != want {
					t.Errorf("%s: %s %d", name, face(p), e)
				}
			}
			if p, e := tree.At(l, x, nil); face(p) != "0" || e != want {
				t.Errorf("%s: %s %d", name, face(p), e)
			}
		}
	}
	for _, l := range badRanks() { // the ranks alone
		if is, e := tree.AtLeast(l, u(), u()); is || e != api.ErrArg {
			t.Error(is, e)
		}
		for _, get := range []func() (api.Tree, api.Errno){
			func() (api.Tree, api.Errno) { return tree.Meet(l, u(), u()) },
			func() (api.Tree, api.Errno) { return tree.Join(l, u(), u()) },
			func() (api.Tree, api.Errno) { return tree.Cut(l, u(), 1) },
			func() (api.Tree, api.Errno) { return tree.At(l, u(), nil) },
		} {
			if x, e := get(); face(x) != "0" || e != api.ErrArg {
				t.Error(face(x), e)
			}
		}
	}
}
