package infer_test

import (
	"math/rand"
	"slices"
	"strconv"
	"strings"
	"testing"

	"virgation/api"
	"virgation/infer"
)

func TestSorts(t *testing.T) {
	for _, c := range []struct {
		lines []string
		want  string
	}{
		{[]string{"s = f c", "f x = a x (f (b x))"}, "o, o > o"}, // the chapter's examples
		{[]string{"s = c", "k x y = x"}, "o, o > o > o"},
		{[]string{"s = f b c", "f x y = x y"}, "o, (o > o) > o > o"},
		{[]string{"s = s"}, "o"},
		{[]string{"s = c"}, "o"},
		{[]string{"s = f", "f = s"}, "o, o"},
		{[]string{"s = c", "f x = c"}, "o, o > o"}, // what is not used is o
		{[]string{"s = c", "f x y z = y"}, "o, o > o > o > o"},
		{[]string{"s = c", "f x y = x y"}, "o, (o > o) > o > o"},
		{[]string{"s = c", "f x y z = x y z"}, "o, (o > o > o) > o > o > o"},
		{[]string{"s = c", "f x y z = x (y z)"}, "o, (o > o) > (o > o) > o > o"},
		{[]string{"s = c", "f x y z = x z (y z)"}, "o, (o > o > o) > (o > o) > o > o"},
		{[]string{"s = c", "f x y = f x y"}, "o, o > o > o"},
		{[]string{"s = c", "f x y = f y x"}, "o, o > o > o"},
		{[]string{"s = c", "f x y = a (x c) (f y x)"}, "o, (o > o) > (o > o) > o"},
		{[]string{"s = f a", "f x = x c c"}, "o, (o > o > o) > o"},
		{[]string{"s = f q", "f x = c"}, "o, (o > o > o > o > o) > o"},
		{[]string{"s = f (q c)", "f x = c"}, "o, (o > o > o > o) > o"},
		{[]string{"s = f (q c c c)", "f x = c"}, "o, (o > o) > o"},
		{[]string{"s = f (q c c c c)", "f x = c"}, "o, o > o"},
		{[]string{"s = f g", "f x = c", "g x y = c"}, "o, (o > o > o) > o, o > o > o"},
		{[]string{"s = f (g c)", "f x = c", "g x y = c"}, "o, (o > o) > o, o > o > o"},
		{[]string{"s = f (g b)", "f x = x c", "g y z = y z"}, "o, (o > o) > o, (o > o) > o > o"},
		{[]string{"s = f (g b) c", "f x y = x y", "g y z = z"}, "o, (o > o) > o > o, (o > o) > o > o"},
		{[]string{"s = f g", "f x = x b", "g x = x c"}, "o, ((o > o) > o) > o, (o > o) > o"},
		{[]string{"s = c", "f x = f g", "g x = x c"}, "o, ((o > o) > o) > o, (o > o) > o"},
		{[]string{"s = c", "f x = x f", "g x = c"}, ""},
		{[]string{"s = c", "f x = x (x c)"}, "o, (o > o) > o"},
		{[]string{"s = c", "f x y = y (x y)"}, "o, ((o > o) > o) > (o > o) > o"},
		{[]string{"s = c", "f x y = x (x y)"}, "o, (o > o) > o > o"},
		{[]string{"s = c", "f x y = a (x y) (x b)"}, "o, ((o > o) > o) > (o > o) > o"},
		{[]string{"s = g f f", "f x = x", "g x y = x c"}, "o, o > o, (o > o) > (o > o) > o"},
		{[]string{"s = g f", "f x = b x", "g x = x (x (g x))"}, "o, o > o, (o > o) > o"},
		{[]string{"s = n n2", "n x = x b c", "n2 x y = x (x y)"}, "o, ((o > o) > o > o) > o, (o > o) > o > o"},
		{[]string{"s = c", "h x = c", "g x = h x", "f x = g x b"}, ""},
		{[]string{"s = c", "h x = c", "g x = h x", "f x = g (x b)"}, "o, o > o, o > o, ((o > o) > o) > o"},
		{[]string{"s = c", "f x = g x", "g x = h x", "h x = x b"}, "o, ((o > o) > o) > o, ((o > o) > o) > o, ((o > o) > o) > o"},
		{[]string{"s = c", "f x y z = a (x y) (x z)", "g = f c c c"}, ""},
		{[]string{"s = c", "f x y z = a (x y) (x z)", "g = f b c s"}, "o, (o > o) > o > o > o, o"},
		{[]string{"s = c", "f x y z = a (x y) (x z)", "g h = f b c h", "i = g s"}, "o, (o > o) > o > o > o, o > o, o"},
		{[]string{"s = c", "f x y z = a (x y) (x z)", "g h = f h b"}, ""},
		{[]string{"s = c", "f x y z = a (x y) (x z)", "g h y = f h b y"}, "o, ((o > o) > o) > (o > o) > (o > o) > o, ((o > o) > o) > (o > o) > o"},
		{[]string{"s = c", "a x = x c", "f y = a y"}, "o, (o > o) > o, (o > o) > o"}, // a function with the name of a symbol
	} {
		x, e := infer.Sorts(syms(), loose(c.lines...))
		if c.want == "" && (len(x) != 0 || e != api.ErrSort) || c.want != "" && (sortFaces(x) != c.want || e != api.OK) {
			t.Errorf("%q: %s %d, not %q", c.lines, sortFaces(x), e, c.want)
		}
	}
}

// There is no assignment, wherever the reason stands.
func TestNoSorts(t *testing.T) {
	for _, lines := range [][]string{
		{"s = s s"}, {"s = c c"}, {"s = c s"}, {"s = b"}, {"s = a c"}, {"s = a c c c"}, {"s = a b c"}, {"s = a c b"}, {"s = b (b b)"}, {"s = q c c c"}, {"s = b (c c)"},
		{"s = c", "f x = x x"}, {"s = f c", "f x = x x"}, {"s = f f", "f x = x"}, {"s = f", "f x = x"}, {"s = f c c", "f x = x"}, {"s = c", "f x = f"},
		{"s = c", "f x = x f"}, {"s = c", "f x = f f"}, {"s = c", "f x = f (f f)"}, {"s = c", "f x y = f x"}, {"s = c", "f x y = f x y x"}, {"s = c", "f x y = a (x y) (y x)"},
		{"s = c", "f x y = a (x y) y c"}, {"s = c", "f x y = a (x y) x"}, {"s = c", "f x = a x (x c)"}, {"s = c", "f x = a (x c) (x c c)"}, {"s = c", "f x = a (x c) (x b)"},
		{"s = c", "f x = x (x x)"}, {"s = c", "f x y = x (y (x y))"}, {"s = c", "f x = g x x", "g x y = x y"}, {"s = c", "f x = g x", "g x = x g f"}, {"s = c", "f x = x g", "g x = x f"},
		{"s = c", "f x y z = a (x y) (a (y z) (z x))"}, {"s = c", "f x = g x", "g x = h x", "h x = a (x c) x"}, {"s = a (f b) (f c)", "f x = c"},
		{"s = a (f g) (f h)", "f x = c", "g x = c", "h x y = c"}, {"s = c", "f x = c", "g = f f"}, {"s = f (g b)", "f x = c", "g x y = y c", "h = g c"},
		{"s = c", "f x = x c", "g y = f (y g)"}, {"s = c", "f x y = f y (x c)"}, {"s = c", "f x y = f (x c) y"},
	} {
		l := loose(lines...)
		fails(t, strings.Join(lines, "; "), syms(), l, api.ErrSort)
		var before, behind []infer.Loose
		for i := range 20 {
			x := infer.Loose{Name: "z" + strconv.Itoa(i), Params: 2, Body: v(0, v(1))}
			before, behind = append(before, x), append(behind, x)
		}
		// Behind other functions, and ahead of them.
		moved := append(append([]infer.Loose{{Name: "start", Body: s(2)}}, before...), l...)
		for i, x := range l {
			moved[21+i] = infer.Loose{Name: x.Name, Params: x.Params, Body: shifted(x.Body, 21)}
		}
		fails(t, "behind others: "+strings.Join(lines, "; "), syms(), moved, api.ErrSort)
		fails(t, "ahead of others: "+strings.Join(lines, "; "), syms(), append(l, behind...), api.ErrSort)
	}
}

// shifted is t with other numbers of functions.
func shifted(t api.Term, by int) api.Term {
	out := api.Term{Kind: t.Kind, N: t.N}
	if t.Kind == api.KFun {
		out.N += by
	}
	for _, a := range t.Args {
		out.Args = append(out.Args, shifted(a, by))
	}
	return out
}

// heir lists a start and functions f1 to fn, fi with a parameter to which f(i-1) is given so many times: the sort of fi has
// so many times the nodes of that of f(i-1), and then some.
func heir(n, times int) []infer.Loose {
	out := []infer.Loose{{Name: "s", Body: s(2)}}
	for i := 1; i <= n; i++ {
		x := infer.Loose{Name: "f" + strconv.Itoa(i), Params: 1, Body: v(0)}
		if i > 1 {
			x.Body.Args = many(times, f(i-1))
		}
		out = append(out, x)
	}
	return out
}

// turned is l, with the functions behind the start in the other order.
func turned(l []infer.Loose) []infer.Loose {
	out := slices.Clone(l)
	slices.Reverse(out[1:])
	var turn func(x api.Term) api.Term
	turn = func(x api.Term) api.Term {
		y := api.Term{Kind: x.Kind, N: x.N}
		if x.Kind == api.KFun && x.N > 0 {
			y.N = len(l) - x.N
		}
		for _, a := range x.Args {
			y.Args = append(y.Args, turn(a))
		}
		return y
	}
	for i, x := range out {
		out[i].Body = turn(x.Body)
	}
	return out
}

// A sort may have MaxSort nodes, the depth MaxDeep and MaxArgs arguments anywhere.
func TestLimits(t *testing.T) {
	args := func(n int) string { return strings.Repeat(" c", n) }
	deep := func(n int) []infer.Loose { return heir(n/2, 1) } // the depth n of an even n: o > o, ((o > o) > o) > o and so on
	odd := func(n int) []infer.Loose {                        // the depth n of an odd n
		l := heir(n/2, 1)
		l[1].Body = v(0, s(2))
		return l
	}
	for name, c := range map[string]struct {
		l     []infer.Loose
		nodes int // of the last sort; 0: it is not valid
	}{
		"8 arguments":               {loose("s = c", "f x ="+" x"+args(8)), 10},
		"9 arguments":               {loose("s = c", "f x ="+" x"+args(9)), 0},
		"399 arguments":             {with(v(0, many(399, s(2))...)), 0},
		"9 arguments, inside":       {loose("s = c", "f x y = y (x"+args(8)+") (g x)", "g x = x"+args(9)), 0},
		"9 by parts":                {loose("s = c", "f x y = y (x c c c c)", "g y = y c c c c c", "h x y = f x g"), 0},
		"8 by parts":                {loose("s = c", "f x y = y (x c c c c)", "g y = y c c c c", "h x = f x g"), 10},
		"depth 30":                  {deep(30), 30},
		"depth 31":                  {odd(31), 0},
		"depth 29":                  {odd(29), 29},
		"depth 32":                  {deep(32), 0},
		"depth 128":                 {append(deep(126), infer.Loose{Name: "z", Body: f(63)})[:64], 0},
		"60 nodes":                  {with60(0), 60},
		"61 nodes":                  {with60(1), 0},
		"30 nodes, of 4 times 2":    {heir(4, 2), 30},
		"62 nodes, of 5 times 2":    {heir(5, 2), 0},
		"2^63 nodes":                {heir(63, 2), 0},
		"8^63 nodes":                {heir(63, 8), 0},
		"2^62 nodes, first":         {turned(heir(62, 2)), 0},
		"8^62 nodes, first":         {turned(heir(62, 8)), 0},
		"too large, behind a limit": {append(heir(61, 3), infer.Loose{Name: "z", Params: 1, Body: v(0, f(61))}, infer.Loose{Name: "y", Body: s(2)}), 0},
	} {
		x, e := infer.Sorts(syms(), c.l)
		if c.nodes == 0 {
			fails(t, name, syms(), c.l, api.ErrLimit)
		} else if e != api.OK || nodes(x[len(x)-1]) != c.nodes || !assigns(c.l, x) {
			t.Errorf("%s: %s %d", name, sortFaces(x), e)
		}
	}
}

// with60 is a start and a function, whose sort has more nodes than 60 by so many.
func with60(more int) []infer.Loose {
	var kids []api.Term
	for i := range 8 {
		n := []int{7, 7, 6, 6, 6, 6, 6, 5}[i]
		if i == 7 {
			n += more
		}
		kids = append(kids, v(i, many(n, s(2))...))
	}
	// The 8 parameters have 8, 8, 7, 7, 7, 7, 7 and 6 nodes; the last one is given b twice, and so has 2 more.
	body := s(0, s(4, kids[0], kids[1], kids[2], kids[3]), s(4, kids[4], kids[5], kids[6], kids[7]))
	for i := range body.Args[1].Args[3].Args[:2] {
		body.Args[1].Args[3].Args[i] = s(1)
	}
	return []infer.Loose{{Name: "s", Body: s(2)}, {Name: "f", Params: 8, Body: body}}
}

// ErrSort comes ahead of ErrLimit: where a sort is too large, or so large that it could not be visited, and another is missing.
func TestNoSortsAheadOfLimit(t *testing.T) {
	for name, l := range map[string][]infer.Loose{
		"ahead":        loose("s = c c", "f x = x c c c c c c c c c"),
		"behind":       loose("s = c", "f x = x c c c c c c c c c", "g x = x x"),
		"deep":         append(heir(40, 1), infer.Loose{Name: "g", Params: 1, Body: v(0, v(0))}),
		"2^60 nodes":   append(heir(60, 2), infer.Loose{Name: "g", Body: f(60)}),
		"2^60 applied": append(heir(60, 2), infer.Loose{Name: "g", Body: f(60, s(1))}),
		"2^60 in c":    append(heir(60, 2), infer.Loose{Name: "g", Body: s(1, f(60))}),
		"two at once":  append(heir(60, 2), infer.Loose{Name: "g", Params: 1, Body: s(0, v(0, f(60)), v(0, f(59)))}),
		"all at once":  append(heir(60, 2), infer.Loose{Name: "g", Params: 1, Body: s(0, v(0, f(60)), v(0, f(1)))}),
	} {
		fails(t, name, syms(), l, api.ErrSort)
	}
	round := heir(60, 2)
	round[1].Body = v(0, f(60))
	fails(t, "a sort that contains itself in many places", syms(), round, api.ErrSort)
	// Two sorts that are too large to be visited, found equal.
	l := append(heir(30, 2), infer.Loose{Name: "g", Params: 1, Body: s(0, v(0, f(30)), v(0, f(61)))})
	for i, x := range heir(30, 2)[1:] {
		x.Name = "e" + strconv.Itoa(i)
		if i > 0 {
			x.Body.Args = many(2, f(31+i))
		}
		l = append(l, x)
	}
	fails(t, "two towers", syms(), l, api.ErrLimit)
	l[32].Body = v(0, v(0))
	fails(t, "two towers, one of which stands on nothing", syms(), l, api.ErrSort)
	l[32].Body = v(0, s(2))
	fails(t, "two towers on the same", syms(), l, api.ErrSort) // the one is one of o > o, the other one of o
	l[1].Body = v(0, s(2))
	fails(t, "two towers on the same", syms(), l, api.ErrLimit)
}

// Of all assignments whose sorts have few nodes, that of Sorts is the smallest.
func TestSmallest(t *testing.T) {
	x, y := infer.Loose{Name: "s"}, infer.Loose{Name: "f"}
	few := sortsUpTo(4)
	one := func(n int) []api.Sort { // each of few counts as one in a list
		if n == 1 {
			return few
		}
		return nil
	}
	met := map[api.Errno]int{}
	for y.Params = range 3 {
		choices := lists(y.Params, one)
		heads := []api.Term{v(0), v(1), f(1), s(0), s(1), s(2)}[2-y.Params:]
		for i := range heads[:y.Params] {
			heads[i].N = i
		}
		for _, y.Body = range termsUpTo(3, heads) {
			for _, x.Body = range []api.Term{s(2), f(1), f(1, s(2)), f(1, s(1)), f(1, s(0)), f(1, s(1), s(2)), f(1, f(0), s(1)), f(1, f(1)), f(1, f(1), s(2)), s(1, f(1, f(1, s(1))))} {
				l := []infer.Loose{x, y}
				best, e := infer.Sorts(syms(), l)
				met[e]++
				if e == api.OK && !assigns(l, best) || e != api.OK && (e != api.ErrSort || len(best) != 0) {
					t.Fatal(face(l), sortFaces(best), e)
				}
				for _, params := range choices {
					other := []api.Sort{of(), of(params...)}
					if assigns(l, other) && (e != api.OK || !below(best[1], other[1])) {
						t.Fatal(face(l), sortFaces(best), sortFaces(other))
					}
				}
			}
		}
	}
	if met[api.OK] < 200 || met[api.ErrSort] < 2000 {
		t.Error(met)
	}
}

// A shape is a sort that is being found in the simplest way: o, a variable (if it has a number), or an arrow.
type shape struct {
	n        int
	from, to *shape
}

// put replaces a variable everywhere.
func (x *shape) put(n int, by *shape) *shape {
	if x.n == n {
		return by
	}
	if x.from == nil {
		return x
	}
	return &shape{from: x.from.put(n, by), to: x.to.put(n, by)}
}

func (x *shape) has(n int) bool {
	return x.n == n || x.from != nil && (x.from.has(n) || x.to.has(n))
}

func (x *shape) sort() api.Sort {
	var out api.Sort
	for x.from != nil {
		out.Args = append(out.Args, x.from.sort())
		x = x.to
	}
	return out
}

// solved replaces variables in l until each of some pairs is equal.
func solved(l []*shape, pairs [][2]*shape) ([]*shape, bool) {
	for len(pairs) > 0 {
		a, b := pairs[0][0], pairs[0][1]
		pairs = pairs[1:]
		if a.n == 0 {
			a, b = b, a
		}
		switch {
		case a.n > 0 && a.n == b.n || a.n == 0 && a.from == nil && b.from == nil:
		case a.n > 0 && b.has(a.n) || a.n == 0 && (a.from == nil || b.from == nil):
			return nil, false
		case a.n > 0:
			for i := range pairs {
				pairs[i] = [2]*shape{pairs[i][0].put(a.n, b), pairs[i][1].put(a.n, b)}
			}
			for i := range l {
				l[i] = l[i].put(a.n, b)
			}
		default:
			pairs = append(pairs, [2]*shape{a.from, b.from}, [2]*shape{a.to, b.to})
		}
	}
	return l, true
}

// simplest is Sorts, but for limits, in the simplest way.
func simplest(l []infer.Loose) ([]api.Sort, bool) {
	last := 0
	fresh := func() *shape {
		last++
		return &shape{n: last}
	}
	var funs []*shape
	params := make([][]*shape, len(l))
	for i, x := range l {
		sort := &shape{}
		for range x.Params {
			params[i] = append(params[i], fresh())
		}
		for _, p := range slices.Backward(params[i]) {
			sort = &shape{from: p, to: sort}
		}
		funs = append(funs, sort)
	}
	var pairs [][2]*shape
	var visit func(i int, t api.Term) *shape
	visit = func(i int, t api.Term) *shape {
		out := &shape{}
		switch t.Kind {
		case api.KVar:
			out = params[i][t.N]
		case api.KFun:
			out = funs[t.N]
		case api.KSym:
			for range syms()[t.N].Rank {
				out = &shape{from: &shape{}, to: out}
			}
		}
		for _, a := range t.Args {
			to := fresh()
			pairs = append(pairs, [2]*shape{out, {from: visit(i, a), to: to}})
			out = to
		}
		return out
	}
	for i, x := range l {
		pairs = append(pairs, [2]*shape{visit(i, x.Body), {}})
	}
	found, ok := solved(slices.Clone(funs), pairs)
	var out []api.Sort
	for _, x := range found {
		out = append(out, x.sort())
	}
	return out, ok
}

// Loose functions that are chosen at random have the sorts that the simplest way finds.
func TestRandom(t *testing.T) {
	r := rand.New(rand.NewSource(4))
	met := map[api.Errno]int{}
	for range 40000 {
		l := make([]infer.Loose, 1+r.Intn(4))
		for i := range l {
			l[i].Name = "f" + strconv.Itoa(i)
			if i > 0 {
				l[i].Params = r.Intn(4)
			}
		}
		for i := range l {
			l[i].Body = randomTerm(r, l, l[i].Params, 1+r.Intn(5))
		}
		want, ok := simplest(l)
		got, e := infer.Sorts(syms(), l)
		met[e]++
		if ok && (e != api.OK || sortFaces(got) != sortFaces(want) || !assigns(l, got)) || !ok && (e != api.ErrSort || len(got) > 0) {
			t.Fatal(face(l), sortFaces(got), e, sortFaces(want))
		}
	}
	if met[api.OK] < 2000 || met[api.ErrSort] < 2000 {
		t.Error(met)
	}
}

// randomTerm has at most n nodes, and as many arguments everywhere as functions and symbols take.
func randomTerm(r *rand.Rand, l []infer.Loose, params, n int) api.Term {
	heads := []api.Term{}
	for i := range params {
		heads = append(heads, v(i), v(i))
	}
	for i := range l {
		heads = append(heads, f(i))
	}
	heads = append(heads, s(0), s(1), s(2))
	out := heads[r.Intn(len(heads))]
	most := r.Intn(3)
	switch out.Kind {
	case api.KFun:
		most = l[out.N].Params
	case api.KSym:
		most = syms()[out.N].Rank
	}
	if r.Intn(8) == 0 {
		most = r.Intn(3)
	}
	n--
	for i := range most {
		if n > 0 {
			out.Args = append(out.Args, randomTerm(r, l, params, 1+(n-1)/(most-i)))
			n--
		}
	}
	return out
}

// The most and largest functions that there may be are no more than a moment's work.
func TestLargest(t *testing.T) {
	wide := s(2)
	for range 25 {
		wide = s(4, wide, f(63, v(0), v(1)), v(0, v(1, f(62, v(0), v(1)))), s(1, s(3, v(0, s(2)), s(2), s(2))))
	}
	l := idle(64)
	for i := range l[1:] {
		l[1+i].Params, l[1+i].Body = 2, wide
	}
	for range 10 {
		x, e := infer.Sorts(syms(), l)
		if e != api.OK || sortFace(x[1]) != "(o > o) > (o > o) > o" || sortFace(x[63]) != sortFace(x[1]) || !assigns(l, x) {
			t.Fatal(sortFaces(x), e)
		}
	}
	long := idle(64)
	for i := range long[1:] {
		long[1+i].Params, long[1+i].Body = 2, v(0, append(many(197, f(1+(i+7)%63)), many(201, v(1))...)...)
	}
	for range 10 {
		fails(t, "long", syms(), long, api.ErrSort)
		fails(t, "tower", syms(), heir(63, 398), api.ErrLimit)
	}
}
