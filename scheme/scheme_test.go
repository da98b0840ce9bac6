package scheme_test

import (
	"reflect"
	"slices"
	"testing"

	"virgation/api"
	"virgation/scheme"
)

func TestCheck(t *testing.T) {
	for name, x := range fine(t) {
		if e := scheme.Check(x); e != api.OK {
			t.Errorf("%s: %d", name, e)
		}
	}
	for name, x := range broken() {
		if e := scheme.Check(x); e != api.ErrScheme {
			t.Errorf("%s: %d", name, e)
		}
	}
}

// Every term of at most four nodes is a body if and only if it has the sort o.
func TestCheckAll(t *testing.T) {
	heads := []head{{api.KVar, 0}, {api.KVar, 1}, {api.KVar, 2}, {api.KFun, 0}, {api.KFun, 1}, {api.KFun, 2}, {api.KFun, 3},
		{api.KSym, 0}, {api.KSym, 1}, {api.KSym, 2}, {api.KSym, 5}, {3, 0}}
	few := append(heads[:2:2], heads[4], heads[5], heads[7], heads[8], heads[9])
	met := map[bool]int{}
	for _, body := range append(upTo(3, heads), withNodes(4, few)...) {
		for n, g := range base().Funs {
			x := base()
			x.Funs[n].Body = body
			sort, ok := sortOf(x, g.Sort.Args, body)
			ok = ok && len(sort.Args) == 0
			if e := scheme.Check(x); (e == api.OK) != ok || !ok && e != api.ErrScheme {
				t.Fatal(n, termFace(body), e)
			}
			met[ok]++
		}
	}
	if met[true] < 100 || met[false] < 1000 {
		t.Error(met)
	}
}

// All functions but Same and Get return ErrScheme first, and nothing else with it.
func TestBroken(t *testing.T) {
	for name, x := range broken() {
		order, e := scheme.Order(x)
		ranks, f := scheme.Ranks(x)
		reach, g := scheme.Reach(x)
		text, h := scheme.Put(x)
		if e != api.ErrScheme || f != api.ErrScheme || g != api.ErrScheme || h != api.ErrScheme {
			t.Errorf("%s: %d %d %d %d", name, e, f, g, h)
		}
		if order != 0 || len(ranks) != 0 || len(reach) != 0 || text != "" {
			t.Errorf("%s: %d %v %v %q", name, order, ranks, reach, text)
		}
		if scheme.Same(x, x) || scheme.Same(x, base()) || scheme.Same(base(), x) {
			t.Errorf("%s: it is the same as a scheme", name)
		}
	}
}

// changed lists valid schemes that differ from base, and from one another, in one thing each.
func changed() []api.Scheme {
	changes := []func(x *api.Scheme){
		func(x *api.Scheme) { x.Syms[3].Name = "u" },
		func(x *api.Scheme) { x.Syms[3].Rank = 2 },
		func(x *api.Scheme) { x.Syms = x.Syms[:4] },
		func(x *api.Scheme) { x.Syms = append(x.Syms, api.Symbol{Name: "u"}) },
		func(x *api.Scheme) { x.Syms[3], x.Syms[4] = x.Syms[4], x.Syms[3] },
		func(x *api.Scheme) { x.Funs[0].Name = "t" },
		func(x *api.Scheme) { x.Funs[2].Name = "t" },
		func(x *api.Scheme) { x.Funs = append(x.Funs, loops(1)[0]) },
		func(x *api.Scheme) { x.Funs[1].Body = s(0) },
		func(x *api.Scheme) { x.Funs[1].Body.Args[1].Args[1].N = 0; x.Funs[1].Body.Args[1].Args[1].Args = nil },
		func(x *api.Scheme) { x.Funs[2].Body = v(1) },
		func(x *api.Scheme) { x.Funs[2].Body = v(0, v(1)) },
		func(x *api.Scheme) { x.Funs[0].Body = f(0) },
		func(x *api.Scheme) { x.Funs[0].Body, x.Funs[1].Body = s(0), s(0) },
		func(x *api.Scheme) { x.Funs[0].Body, x.Funs[1].Body, x.Funs[1].Sort = s(0), s(0), of(of(of())) },
		func(x *api.Scheme) { x.Funs = x.Funs[:1]; x.Funs[0].Body = s(0) },
	}
	out := []api.Scheme{base()}
	for _, change := range changes {
		x := base()
		change(&x)
		out = append(out, x)
	}
	return out
}

func TestSame(t *testing.T) {
	l := changed()
	for i, a := range l {
		for j, b := range l {
			if scheme.Same(a, b) != (i == j) {
				t.Errorf("%s and %s: %v", face(a), face(b), i != j)
			}
		}
	}
	for name, x := range fine(t) {
		for other, y := range fine(t) {
			if scheme.Same(x, y) != (name == other || face(x) == face(y)) {
				t.Error(name, other)
			}
		}
	}
	empty := api.Scheme{Syms: []api.Symbol{}, Funs: []api.Fun{{Name: "f0", Sort: api.Sort{Args: []api.Sort{}}, Body: api.Term{Kind: api.KFun, Args: []api.Term{}}}}}
	if !scheme.Same(empty, api.Scheme{Funs: loops(1)}) || !scheme.Same(api.Scheme{Funs: loops(1)}, empty) {
		t.Error("nil and empty slices differ")
	}
}

func TestOrder(t *testing.T) {
	for text, want := range map[string]int{
		sums:                             1,
		"fun s : o = s\n":                0,
		"fun s : o = s\nfun f : o = s\n": 0,
		"fun s : o = s\nfun f : o > o > o = $1\n":                                 1,
		"fun s : o = s\nfun f : (o > o) > o = s\nfun g : o > o = $0\n":            2,
		"fun s : o = s\nfun f : o > o = s\nfun g : o > (o > o) > o = $0\n":        2,
		"fun s : o = s\nfun f : ((o > o) > o) > o = s\nfun g : (o > o) > o = s\n": 3,
		"symbol a 4\nfun s : o = s\n":                                             0, // the orders of symbols do not count
	} {
		if n, e := scheme.Order(get(t, text)); n != want || e != api.OK {
			t.Errorf("%q: %d %d", text, n, e)
		}
	}
	if n, e := scheme.Order(fine(t)["order 29"]); n != 29 || e != api.OK {
		t.Error(n, e)
	}
	if n, e := scheme.Order(fine(t)["64 functions"]); n != 0 || e != api.OK {
		t.Error(n, e)
	}
}

func TestRanks(t *testing.T) {
	for text, want := range map[string][]int{
		sums:                          {2, 1, 0},
		"fun s : o = s\n":             nil,
		"symbol a 0\nfun s : o = s\n": {0},
		"symbol a 4\nsymbol b 0\nsymbol c 4\nsymbol d 3\nsymbol e 1\nfun s : o = s\n": {4, 0, 4, 3, 1},
	} {
		if l, e := scheme.Ranks(get(t, text)); !slices.Equal(l, want) || e != api.OK {
			t.Errorf("%q: %v %d", text, l, e)
		}
	}
	if l, e := scheme.Ranks(fine(t)["24 symbols"]); !slices.Equal(l, many(24, 4)) || e != api.OK {
		t.Error(l, e)
	}
}

func TestReach(t *testing.T) {
	for text, want := range map[string][]int{
		sums:                       {0, 1},
		sums + "fun g : o = g\n":   {0, 1},
		sums + "fun g : o = f s\n": {0, 1},
		"fun s : o = s\n":          {0},
		"symbol c 0\nfun s : o = #c\nfun f : o = s\n":                                        {0},
		"symbol c 0\nfun s : o = g\nfun f : o = #c\nfun g : o = h\nfun h : o = #c\n":         {0, 2, 3},
		"symbol c 0\nfun s : o = h\nfun f : o = g\nfun g : o = #c\nfun h : o = f\n":          {0, 1, 2, 3},
		"symbol c 0\nfun s : o = h\nfun f : o = g\nfun g : o = f\nfun h : o = h\n":           {0, 3},
		"symbol a 2\nfun s : o = #a h k\nfun f : o = s\nfun h : o = k\nfun k : o = h\n":      {0, 2, 3},
		"fun s : o = f g\nfun f : (o > o) > o = $0 s\nfun g : o > o = $0\nfun h : o = g s\n": {0, 1, 2}, // one that is an argument, without arguments
		"symbol b 1\nfun s : o = #b (#b (#b (#b k)))\nfun f : o = s\nfun k : o = k\n":        {0, 2},
		"fun s : o = k f\nfun f : o = g\nfun g : o = g\nfun k : o > o = s\n":                 {0, 1, 2, 3}, // also where the argument is dropped
	} {
		if l, e := scheme.Reach(get(t, text)); !slices.Equal(l, want) || e != api.OK {
			t.Errorf("%q: %v %d", text, l, e)
		}
	}
	ring := api.Scheme{Funs: loops(64)}
	for i := range ring.Funs {
		ring.Funs[i].Body = f((i + 63) % 64)
	}
	if l, e := scheme.Reach(ring); len(l) != 64 || !slices.IsSorted(l) || e != api.OK {
		t.Error(l, e)
	}
	ring.Funs[10].Body = f(20)
	if l, e := scheme.Reach(ring); len(l) != 55 || l[1] != 10 || l[54] != 63 || e != api.OK {
		t.Error(l, e)
	}
}

// Of all graphs of four functions, Reach returns what paths from the start lead to.
func TestReachAll(t *testing.T) {
	syms := []api.Symbol{{Name: "c"}, {Name: "b", Rank: 1}, {Name: "a", Rank: 2}, {Name: "t", Rank: 3}}
	for code := range 1 << 16 {
		x := api.Scheme{Syms: syms, Funs: loops(4)}
		var calls [4][4]bool
		for i := range 4 {
			var kids []api.Term
			for j := range 4 {
				if code>>(4*i+j)&1 == 1 && len(kids) < 3 {
					kids = append(kids, f(j))
					calls[i][j] = true
				}
			}
			x.Funs[i].Body = s(len(kids), kids...)
		}
		for k := range 4 {
			for i := range 4 {
				for j := range 4 {
					calls[i][j] = calls[i][j] || calls[i][k] && calls[k][j]
				}
			}
		}
		want := []int{0}
		for j := 1; j < 4; j++ {
			if calls[0][j] {
				want = append(want, j)
			}
		}
		if l, e := scheme.Reach(x); !slices.Equal(l, want) || e != api.OK {
			t.Fatal(face(x), l, e)
		}
	}
}

// P3.5.
func TestNeeded(t *testing.T) {
	for name, x := range fine(t) {
		order, _ := scheme.Order(x)
		for _, g := range x.Funs {
			if sort, ok := sortOf(x, g.Sort.Args, g.Body); !ok || len(sort.Args) != 0 {
				t.Error(name, g.Name)
			}
		}
		if len(x.Funs[0].Sort.Args) != 0 {
			t.Error(name)
		}
		l, e := scheme.Reach(x)
		if e != api.OK || len(l) == 0 || l[0] != 0 {
			t.Fatal(name, l, e)
		}
		y := api.Scheme{Syms: x.Syms}
		for _, n := range l {
			g := x.Funs[n]
			g.Body = renumbered(g.Body, l)
			y.Funs = append(y.Funs, g)
		}
		less, e := scheme.Order(y)
		all, _ := scheme.Reach(y)
		if e != api.OK || less > order || len(all) != len(l) {
			t.Error(name, less, order, all, e)
		}
	}
}

// renumbered is t where the function l[i] has the number i.
func renumbered(t api.Term, l []int) api.Term {
	out := api.Term{Kind: t.Kind, N: t.N}
	if t.Kind == api.KFun {
		out.N = slices.Index(l, t.N)
	}
	for _, a := range t.Args {
		out.Args = append(out.Args, renumbered(a, l))
	}
	return out
}

// No function changes its arguments, or returns another result when it is called again (rules 3 and 7).
func TestTwice(t *testing.T) {
	l, bad := fine(t), broken()
	for _, name := range []string{"a body with no tree", "65 functions", "the rank 5"} {
		l[name] = bad[name]
	}
	for name, x := range l {
		before := face(x)
		var results [2][]any
		for i := range results {
			order, e := scheme.Order(x)
			ranks, f := scheme.Ranks(x)
			reach, g := scheme.Reach(x)
			text, h := scheme.Put(x)
			y, k := scheme.Get(text)
			results[i] = []any{scheme.Check(x), scheme.Same(x, x), scheme.Same(x, base()), order, e, ranks, f, reach, g, text, h, y, k}
		}
		if !reflect.DeepEqual(results[0], results[1]) || face(x) != before {
			t.Error(name)
		}
	}
}

// Results are new memory (rule 3).
func TestMemory(t *testing.T) {
	x := base()
	for _, call := range []func(api.Scheme) ([]int, api.Errno){scheme.Ranks, scheme.Reach} {
		one, _ := call(x)
		want := slices.Clone(one)
		for i := range one[:cap(one)] {
			one[:cap(one)][i] = 99
		}
		if two, _ := call(x); !slices.Equal(two, want) || face(x) != face(base()) {
			t.Error("two results share memory")
		}
	}
	text, _ := scheme.Put(x)
	one, two := get(t, text), get(t, text)
	spoil(one)
	if face(two) != face(x) || face(get(t, text)) != face(x) {
		t.Error("two results share memory")
	}
	double := get(t, "symbol a 2\nfun s : o = #a (#a s s) (#a s s)\nfun f : (o > o) > (o > o) > o = s\n")
	spoilTerm(double.Funs[0].Body.Args[0])
	spoilSort(double.Funs[1].Sort.Args[0])
	if termFace(double.Funs[0].Body.Args[1]) != "2.0(1.0)(1.0)" || sortFace(double.Funs[1].Sort.Args[1]) != "<<>>" {
		t.Error("two parts of a result share memory")
	}
}

// spoil changes a scheme, and the memory behind its slices.
func spoil(x api.Scheme) {
	for i := range x.Funs {
		spoilSort(x.Funs[i].Sort)
		spoilTerm(x.Funs[i].Body)
	}
	for i := range x.Funs[:cap(x.Funs)] {
		x.Funs[:cap(x.Funs)][i] = api.Fun{Name: "spoilt"}
	}
	for i := range x.Syms[:cap(x.Syms)] {
		x.Syms[:cap(x.Syms)][i] = api.Symbol{Name: "spoilt"}
	}
}

func spoilSort(x api.Sort) {
	for i := range x.Args {
		spoilSort(x.Args[i])
	}
	for i := range x.Args[:cap(x.Args)] {
		x.Args[:cap(x.Args)][i] = sortChain(7)
	}
}

func spoilTerm(x api.Term) {
	for i := range x.Args {
		spoilTerm(x.Args[i])
	}
	for i := range x.Args[:cap(x.Args)] {
		x.Args[:cap(x.Args)][i] = v(77)
	}
}
