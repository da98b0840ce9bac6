package term_test

import (
	"math"
	"slices"
	"testing"

	"virgation/api"
	"virgation/term"
)

func TestSize(t *testing.T) {
	for _, c := range []struct {
		t            api.Term
		nodes, depth int
	}{
		{v(0), 1, 1},
		{api.Term{Kind: 9, N: -9, Args: []api.Term{}}, 1, 1},
		{v(0, v(1)), 2, 2},
		{s(0, s(1), s(2, s(1))), 4, 3},
		{s(0, s(2, s(1)), s(1)), 4, 3},
		{f(0, v(0, v(1, v(2))), v(1), v(2, v(3))), 7, 4},
		{wide(60), 60, 2},
		{chain(60), 60, 60},
		{wide(api.MaxSize), api.MaxSize, 2},
		{wide(api.MaxSize - 1), api.MaxSize - 1, 2},
		{chain(api.MaxSize), api.MaxSize, api.MaxSize},
		{shared(16), 65535, 16},
	} {
		if n, d := term.Size(c.t); n != c.nodes || d != c.depth {
			t.Errorf("%d %d, not %d %d", n, d, c.nodes, c.depth)
		}
	}
	for name, x := range tooLarge() {
		if n, d := term.Size(x); n != api.MaxSize+1 || d != 0 {
			t.Errorf("%s: %d %d", name, n, d)
		}
	}
}

func TestSame(t *testing.T) {
	l := upTo(3, []head{{api.KVar, 0}, {api.KVar, 1}, {api.KSym, 0}, {api.KFun, 1}, {-7, math.MinInt}})
	for i, a := range l {
		for j, b := range l {
			if term.Same(a, b) != (i == j) {
				t.Fatalf("%s %s: %v", face(a), face(b), i != j)
			}
		}
	}
	empty := api.Term{Args: []api.Term{{Args: []api.Term{}}}}
	if !term.Same(empty, v(0, v(0))) || !term.Same(v(0, v(0)), empty) {
		t.Error("nil and empty slices differ")
	}
	for _, c := range [][2]api.Term{
		{s(0, s(1), s(2)), s(0, s(2), s(1))},
		{s(0, s(1, s(2))), s(0, s(1), s(2))},
		{s(0, s(1, s(1)), s(1)), s(0, s(1), s(1, s(1)))},
		{wide(1000), wide(1001)},
		{chain(1000), chain(1001)},
		{s(0, wide(1000), v(0)), s(0, wide(1000), v(1))},
	} {
		if term.Same(c[0], c[1]) || term.Same(c[1], c[0]) {
			t.Errorf("%.80s and %.80s are the same", face(c[0]), face(c[1]))
		}
	}
}

func TestSameLarge(t *testing.T) {
	for _, x := range []api.Term{wide(api.MaxSize), chain(api.MaxSize), shared(16)} {
		if !term.Same(x, x) || term.Same(x, s(1)) || term.Same(s(1), x) {
			t.Errorf("%.80s", face(x))
		}
	}
	if !term.Same(chain(api.MaxSize), chain(api.MaxSize)) || !term.Same(wide(api.MaxSize), wide(api.MaxSize)) {
		t.Error("equal large terms differ")
	}
	for name, x := range tooLarge() {
		if term.Same(x, x) || term.Same(x, s(1)) || term.Same(s(1), x) {
			t.Errorf("%s: it is the same as another term", name)
		}
	}
}

func TestFree(t *testing.T) {
	for _, c := range []struct {
		t    api.Term
		want []int
	}{
		{v(0), []int{0}},
		{s(0), nil},
		{f(5), nil},
		{s(-1, f(-2)), nil},
		{api.Term{Kind: 3, N: -1}, nil},
		{api.Term{Kind: -1, N: 4, Args: []api.Term{v(2)}}, []int{2}},
		{v(math.MaxInt), []int{math.MaxInt}},
		{v(3, v(1), v(2, v(1)), v(3)), []int{1, 2, 3}},
		{s(0, v(9), f(7, v(8), v(0)), v(9), v(10)), []int{0, 8, 9, 10}},
		{s(0, v(1<<40), v(1), v(1<<40), v(256), v(1<<20)), []int{1, 256, 1 << 20, 1 << 40}},
		{s(0, s(1, s(2, f(3, v(4))))), []int{4}},
		{chain(api.MaxSize), nil},
		{s(0, append(many(api.MaxSize-3, v(6)), v(2), v(6))...), []int{2, 6}},
	} {
		if l, e := term.Free(c.t); !slices.Equal(l, c.want) || e != api.OK {
			t.Errorf("%.80s: %v %d", face(c.t), l, e)
		}
	}
	var all []api.Term
	for i := range 1000 {
		all = append(all, v(i*7919%1000))
	}
	if l, e := term.Free(s(0, all...)); len(l) != 1000 || !slices.IsSorted(l) || l[0] != 0 || l[999] != 999 || e != api.OK {
		t.Error(len(l), e)
	}
}

func TestFreeErrors(t *testing.T) {
	for _, x := range []api.Term{
		v(-1), v(math.MinInt), v(-1 << 32), v(0, v(-1)), v(-1, v(0)), s(0, v(2), f(0, s(1), s(1, v(-3))), v(1)),
		s(0, append(many(api.MaxSize-2, v(6)), v(-6))...),
	} {
		if l, e := term.Free(x); len(l) != 0 || e != api.ErrArg {
			t.Errorf("%.80s: %v %d", face(x), l, e)
		}
	}
	for name, x := range tooLarge() {
		if l, e := term.Free(x); len(l) != 0 || e != api.ErrLimit {
			t.Errorf("%s: %v %d", name, l, e)
		}
	}
}

// What Free finds is what Subst needs: P2.3 and P2.4 of the same terms.
func TestFreeAll(t *testing.T) {
	for _, x := range upTo(4, []head{{api.KVar, 0}, {api.KVar, 1}, {api.KVar, 3}, {api.KFun, 2}, {api.KSym, -1}}) {
		want := map[int]bool{}
		var visit func(y api.Term)
		visit = func(y api.Term) {
			if y.Kind == api.KVar {
				want[y.N] = true
			}
			for _, a := range y.Args {
				visit(a)
			}
		}
		visit(x)
		l, e := term.Free(x)
		if len(l) != len(want) || !slices.IsSorted(l) || e != api.OK {
			t.Fatal(face(x), l, e)
		}
		for _, n := range l {
			if !want[n] {
				t.Fatal(face(x), l)
			}
		}
		for n := range 5 {
			_, e := term.Subst(x, many(n, s(0)))
			if (e == api.OK) != (len(l) == 0 || l[len(l)-1] < n) {
				t.Fatal(face(x), n, e)
			}
		}
	}
}
