package term_test

import (
	"math"
	"reflect"
	"testing"

	"virgation/api"
	"virgation/term"
)

func TestSubst(t *testing.T) {
	two := []api.Term{s(7, s(8)), f(5)}
	open := []api.Term{v(1, v(0)), v(0)}
	odd := api.Term{Kind: 4, N: -3, Args: []api.Term{v(-1)}}
	for _, c := range []struct {
		t    api.Term
		args []api.Term
		want api.Term
	}{
		{s(0), nil, s(0)},
		{f(-1, s(math.MaxInt)), nil, f(-1, s(math.MaxInt))},
		{v(0), two, s(7, s(8))},
		{v(1), two, f(5)},
		{v(0, v(1)), two, s(7, s(8), f(5))},
		{v(0, v(0, v(1))), two, s(7, s(8), s(7, s(8), f(5)))},
		{v(1, v(0), v(1)), two, f(5, s(7, s(8)), f(5))},
		{s(0, v(1), s(1), v(0)), two, s(0, f(5), s(1), s(7, s(8)))},
		{f(0, f(1, v(1)), s(1, s(2, v(0)))), two, f(0, f(1, f(5)), s(1, s(2, s(7, s(8)))))},
		{v(0), open, v(1, v(0))},
		{v(0, v(1)), open, v(1, v(0), v(0))},
		{v(0, v(0), s(1)), open, v(1, v(0), v(1, v(0)), s(1))},
		{api.Term{Kind: 3, N: 0, Args: []api.Term{v(1)}}, two, api.Term{Kind: 3, N: 0, Args: []api.Term{f(5)}}},
		{v(0, v(1)), []api.Term{odd, v(99)}, api.Term{Kind: 4, N: -3, Args: []api.Term{v(-1), v(99)}}},
		{v(2), many(3, v(0)), v(0)},
		{s(1), many(100000, v(0)), s(1)},
		{v(99999), append(many(99999, s(1)), v(4)), v(4)},
	} {
		if x, e := term.Subst(c.t, c.args); face(x) != face(c.want) || e != api.OK {
			t.Errorf("%s, %.80s: %s %d, not %s", face(c.t), faces(c.args), face(x), e, face(c.want))
		}
	}
}

func TestSubstErrors(t *testing.T) {
	two := []api.Term{s(1), f(1)}
	for _, x := range []api.Term{
		v(-1), v(2), v(3), v(math.MinInt), v(math.MaxInt), v(1 << 32), v(-1 << 32), v(0, v(2)), v(2, v(0)), s(0, v(0), s(1, s(1, v(-1)))),
		f(0, v(1), v(2), v(1)),
	} {
		if y, e := term.Subst(x, two); face(y) != "0.0" || e != api.ErrArg {
			t.Errorf("%s: %s %d", face(x), face(y), e)
		}
	}
	if y, e := term.Subst(v(0), nil); face(y) != "0.0" || e != api.ErrArg {
		t.Error(face(y), e)
	}
	for name, x := range tooLarge() { // ErrLimit comes ahead of ErrArg
		for _, c := range []struct {
			t    api.Term
			args []api.Term
		}{
			{x, nil}, {x, two}, {s(1), []api.Term{x}}, {s(1), []api.Term{s(1), x, s(1)}}, {v(0), []api.Term{x}}, {v(-1), []api.Term{x}},
			{v(9), []api.Term{v(0), x}}, {x, []api.Term{x}},
		} {
			if y, e := term.Subst(c.t, c.args); face(y) != "0.0" || e != api.ErrLimit {
				t.Errorf("%s: %s %d", name, face(y), e)
			}
		}
	}
	// ErrLimit for the result comes last.
	if _, e := term.Subst(v(0, v(0), v(1)), []api.Term{wide(api.MaxSize)}); e != api.ErrArg {
		t.Error(e)
	}
}

// A result may have MaxSize nodes.
func TestSubstLarge(t *testing.T) {
	half := wide(api.MaxSize / 2)
	for _, c := range []struct {
		t    api.Term
		args []api.Term
		want int
	}{
		{v(0), []api.Term{wide(api.MaxSize)}, api.MaxSize},
		{v(0), []api.Term{chain(api.MaxSize)}, api.MaxSize},
		{v(0, s(1)), []api.Term{wide(api.MaxSize)}, 0},
		{v(0, s(1)), []api.Term{wide(api.MaxSize - 1)}, api.MaxSize},
		{s(0, v(0)), []api.Term{wide(api.MaxSize)}, 0},
		{s(0, v(0)), []api.Term{chain(api.MaxSize - 1)}, api.MaxSize},
		{v(0, v(0)), []api.Term{half}, api.MaxSize},
		{v(0, v(0), s(1)), []api.Term{half}, 0},
		{v(1, v(0), v(0)), []api.Term{half, s(1)}, 0},
		{chain(api.MaxSize), []api.Term{s(1), wide(api.MaxSize)}, api.MaxSize},
		{s(0, many(api.MaxSize-1, v(0))...), []api.Term{s(1)}, api.MaxSize},
		{s(0, many(api.MaxSize/2, v(0))...), []api.Term{s(1, s(1))}, 0},
		{s(0, many(api.MaxSize/2-1, v(0))...), []api.Term{s(1, s(1))}, api.MaxSize - 1},
		{s(0, many(api.MaxSize-1, v(0))...), []api.Term{wide(api.MaxSize)}, 0},
		{s(0, many(api.MaxSize-1, v(0))...), []api.Term{shared(16)}, 0},
	} {
		x, e := term.Subst(c.t, c.args)
		if n, _ := term.Size(x); c.want > 0 && (n != c.want || e != api.OK) || c.want == 0 && (face(x) != "0.0" || e != api.ErrLimit) {
			t.Errorf("%d nodes, not %d; %d", n, c.want, e)
		}
	}
}

func TestApply(t *testing.T) {
	odd := api.Term{Kind: 4, N: -3, Args: []api.Term{v(-1)}}
	for _, c := range []struct {
		t    api.Term
		args []api.Term
		want api.Term
	}{
		{v(0), nil, v(0)},
		{s(0, s(1)), nil, s(0, s(1))},
		{v(1), []api.Term{s(1)}, v(1, s(1))},
		{f(1, s(1), v(0, s(2))), []api.Term{f(3), v(-7, f(4))}, f(1, s(1), v(0, s(2)), f(3), v(-7, f(4)))},
		{s(2), []api.Term{v(2), v(1), v(0)}, s(2, v(2), v(1), v(0))},
		{odd, []api.Term{odd}, api.Term{Kind: 4, N: -3, Args: []api.Term{v(-1), odd}}},
		{v(math.MinInt), many(3, v(math.MaxInt)), v(math.MinInt, many(3, v(math.MaxInt))...)},
	} {
		if x, e := term.Apply(c.t, c.args); face(x) != face(c.want) || e != api.OK {
			t.Errorf("%s, %s: %s %d", face(c.t), faces(c.args), face(x), e)
		}
	}
	for _, x := range upTo(3, []head{{api.KVar, 0}, {api.KFun, 1}, {3, -2}}) {
		for _, l := range lists(2, []head{{api.KSym, 1}, {api.KVar, -1}}) {
			want := api.Term{Kind: x.Kind, N: x.N, Args: append(append([]api.Term{}, x.Args...), l...)}
			if y, e := term.Apply(x, l); face(y) != face(want) || e != api.OK {
				t.Errorf("%s, %s: %s %d", face(x), faces(l), face(y), e)
			}
		}
	}
}

func TestApplyLimit(t *testing.T) {
	for _, c := range []struct {
		t    api.Term
		args []api.Term
		ok   bool
	}{
		{wide(api.MaxSize), nil, true},
		{chain(api.MaxSize), nil, true},
		{wide(api.MaxSize), many(1, s(1)), false},
		{wide(api.MaxSize - 1), many(1, s(1)), true},
		{s(1), many(1, chain(api.MaxSize-1)), true},
		{s(1), many(1, chain(api.MaxSize)), false},
		{s(1), many(api.MaxSize-1, v(0)), true},
		{s(1), many(api.MaxSize, v(0)), false},
		{s(1), many(1<<20, v(0)), false},
		{s(1), many(1<<20, shared(62)), false},
		{s(1, s(1)), many(2, wide(api.MaxSize/2-1)), true},
		{s(1, s(1), s(1)), many(2, wide(api.MaxSize/2-1)), false},
	} {
		x, e := term.Apply(c.t, c.args)
		if n, _ := term.Size(x); c.ok && (n > api.MaxSize || len(x.Args) != len(c.t.Args)+len(c.args) || e != api.OK) {
			t.Errorf("%d nodes, %d", n, e)
		}
		if !c.ok && (face(x) != "0.0" || e != api.ErrLimit) {
			t.Errorf("%.40s, %d", face(x), e)
		}
	}
	for name, x := range tooLarge() {
		for _, y := range [][]api.Term{{x}, {s(1), x, s(1)}} {
			if z, e := term.Apply(s(1), y); face(z) != "0.0" || e != api.ErrLimit {
				t.Errorf("%s: %.40s %d", name, face(z), e)
			}
		}
		if z, e := term.Apply(x, nil); face(z) != "0.0" || e != api.ErrLimit {
			t.Errorf("%s: %.40s %d", name, face(z), e)
		}
	}
}

// heads are variables that are replaced, and others that stay.
func heads() []head {
	return []head{{api.KVar, 0}, {api.KVar, 1}, {api.KSym, 1}, {api.KFun, 0}}
}

// P2.4 of all small terms, and P2.7.
func TestSubstAll(t *testing.T) {
	some := upTo(3, heads())
	for i, x := range upTo(4, heads()) {
		for j := range 10 {
			args := []api.Term{some[(i+37*j)%len(some)], some[(7*i+11*j+5)%len(some)]}
			y, e := term.Subst(x, args)
			if face(y) != face(replaced(x, args)) || e != api.OK {
				t.Fatal(face(x), faces(args), face(y), e)
			}
			want := nodes(x)
			for n, k := range occurrences(x) {
				want += k * (nodes(args[n]) - 1)
			}
			if n, _ := term.Size(y); n != want {
				t.Fatal(face(x), faces(args), n, want)
			}
		}
	}
}

// occurrences tells how often each of the variables 0 and 1 occurs in x.
func occurrences(x api.Term) [2]int {
	var out [2]int
	if x.Kind == api.KVar {
		out[x.N]++
	}
	for _, a := range x.Args {
		for n, k := range occurrences(a) {
			out[n] += k
		}
	}
	return out
}

// P2.6: one substitution after the other is one of what has been substituted; the variables change nothing.
func TestSubstTwice(t *testing.T) {
	some := upTo(2, heads())
	for i, x := range upTo(3, heads()) {
		if y, e := term.Subst(x, []api.Term{v(0), v(1), v(2)}); face(y) != face(x) || e != api.OK {
			t.Fatal(face(x), face(y), e)
		}
		for j := range 30 {
			args := []api.Term{some[(i+j)%len(some)], some[(3*i+7*j+1)%len(some)]}
			others := []api.Term{some[(5*i+j+2)%len(some)], some[(i+5*j+3)%len(some)]}
			first, _ := term.Subst(x, args)
			one, e := term.Subst(first, others)
			var both []api.Term
			for _, a := range args {
				b, _ := term.Subst(a, others)
				both = append(both, b)
			}
			two, f := term.Subst(x, both)
			if !term.Same(one, two) || e != api.OK || f != api.OK {
				t.Fatal(face(x), faces(args), faces(others), face(one), face(two), e, f)
			}
		}
	}
}

// Results are new memory, no two slices of which are shared, and arguments stay as they are (rule 3).
func TestMemory(t *testing.T) {
	inner := s(0, s(1), v(0, s(1)))
	x := v(0, inner, f(1, inner), v(1), v(0, v(1)), v(1))
	args := make([]api.Term, 2, 8)
	args[0], args[1] = f(2, inner, inner), s(3, inner)
	before := face(x) + faces(args)
	for name, call := range map[string]func() api.Term{
		"Subst": func() api.Term { y, _ := term.Subst(x, args); return y },
		"Apply": func() api.Term { y, _ := term.Apply(x, args); return y },
		"alone": func() api.Term { y, _ := term.Apply(x, nil); return y },
		"whole": func() api.Term { y, _ := term.Subst(v(0), args); return y },
	} {
		one, two := call(), call()
		want := face(one)
		spoil(two)
		if face(x)+faces(args) != before || face(one) != want {
			t.Errorf("%s: a result shares memory with an argument, or another result", name)
		}
		for i := range one.Args {
			y := call()
			spoil(y.Args[i])
			for j := range y.Args {
				if j != i && face(y.Args[j]) != face(one.Args[j]) {
					t.Errorf("%s: two parts of a result share memory", name)
				}
			}
		}
		if face(args[:8][2]) != "0.0" {
			t.Errorf("%s: the memory behind an argument has changed", name)
		}
	}
	p := small()
	y, _ := term.Sort(p, f(1))
	y.Args[1].Args[0] = of(of(), of())
	y.Args[0] = of(of())
	if !reflect.DeepEqual(p, small()) {
		t.Error("a sort shares memory with the place")
	}
	l, _ := term.Free(x)
	l[0] = 9
	if l, _ := term.Free(x); l[0] != 0 {
		t.Error("two results share memory")
	}
}

// No function changes its arguments, or returns another result when it is called again (rules 3 and 7).
func TestTwice(t *testing.T) {
	p := small()
	l := append(upTo(3, append(inPlace(), head{3, 0}, head{api.KVar, -1}))[:2000], wide(1000), chain(1000))
	for i, x := range l {
		args := []api.Term{l[(i+1)%len(l)], l[(i*7)%len(l)], s(1)}
		before := face(x) + faces(args)
		var results [2][]any
		for j := range results {
			e := term.Check(p)
			nodes, depth := term.Size(x)
			y, f := term.Sort(p, x)
			free, g := term.Free(x)
			z, h := term.Subst(x, args)
			w, k := term.Apply(x, args)
			results[j] = []any{e, nodes, depth, term.Same(x, args[0]), y, f, free, g, z, h, w, k}
		}
		if !reflect.DeepEqual(results[0], results[1]) || face(x)+faces(args) != before || !reflect.DeepEqual(p, small()) {
			t.Fatalf("%.80s", before)
		}
	}
}
