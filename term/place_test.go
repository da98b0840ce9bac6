package term_test

import (
	"math"
	"strconv"
	"strings"
	"testing"

	"virgation/api"
	"virgation/term"
)

// named is a list of n symbols of a rank.
func named(n, rank int) []api.Symbol {
	var out []api.Symbol
	for i := range n {
		out = append(out, api.Symbol{Name: "s" + strconv.Itoa(i), Rank: rank})
	}
	return out
}

// sortChain has n nodes and the depth n.
func sortChain(n int) api.Sort {
	x := of()
	for range n - 1 {
		x = of(x)
	}
	return x
}

// sortShared has 2^n - 1 nodes, in n slices.
func sortShared(n int) api.Sort {
	x := of()
	for range n - 1 {
		x = of(x, x)
	}
	return x
}

// badSorts lists sorts that are not valid.
func badSorts() []api.Sort {
	return []api.Sort{of(many(9, of())...), of(of(), of(many(9, of())...)), sortChain(31), sortShared(6), sortShared(62),
		of(many(100000, of())...)}
}

// badPlaces lists places that are not valid, each because of one rule.
func badPlaces() map[string]term.Place {
	out := map[string]term.Place{
		"25 symbols":       {Syms: named(25, 0)},
		"many symbols":     {Syms: named(100000, 0)},
		"65 functions":     {Funs: many(65, of())},
		"9 parameters":     {Params: many(9, of())},
		"2^20 functions":   {Funs: many(1<<20, of())},
		"2^20 parameters":  {Params: many(1<<20, of())},
		"same names":       {Syms: []api.Symbol{{Name: "a"}, {Name: "a"}}},
		"same names, far":  {Syms: []api.Symbol{{Name: "a"}, {Name: "b"}, {Name: "c"}, {Name: "a", Rank: 2}}},
		"same names, last": {Syms: append(named(23, 1), api.Symbol{Name: "s22", Rank: 2})},
	}
	for _, name := range []string{"", "_", "0", "1a", "_a", "A", "aB", "a b", " a", "a ", "a-b", "a.b", "a$", "#a", "a\n", "a\x00",
		"a/", "a:", "a@", "a[", "a`", "`", "{", "a{", "a\x7f", "a\u00e4", "\u00e4", "a\xff", "\u0430", "a\u0663", "A1",
		strings.Repeat("a", 25), strings.Repeat("a", 1<<20)} {
		out["the name "+strconv.Quote(name[:min(len(name), 30)])] = term.Place{Syms: []api.Symbol{{Name: "z"}, {Name: name}}}
	}
	for _, rank := range []int{-1, 5, 6, math.MinInt, math.MaxInt, 1 << 32, -1 << 32} {
		out["the rank "+strconv.Itoa(rank)] = term.Place{Syms: []api.Symbol{{Name: "z"}, {Name: "a", Rank: rank}}}
	}
	for i, x := range badSorts() {
		out["parameter of a bad sort "+strconv.Itoa(i)] = term.Place{Params: []api.Sort{of(), of(of()), x}}
		out["function of a bad sort "+strconv.Itoa(i)] = term.Place{Funs: append(many(63, of()), x)}
	}
	return out
}

func TestCheck(t *testing.T) {
	for name, p := range map[string]term.Place{
		"empty":         {},
		"empty slices":  {Syms: []api.Symbol{}, Funs: []api.Sort{}, Params: []api.Sort{}},
		"24 symbols":    {Syms: named(24, 4)},
		"ranks":         {Syms: []api.Symbol{{Name: "a", Rank: 0}, {Name: "b", Rank: 1}, {Name: "c", Rank: 2}, {Name: "d", Rank: 3}, {Name: "e", Rank: 4}}},
		"names":         {Syms: []api.Symbol{{Name: "a"}, {Name: "z"}, {Name: "a0"}, {Name: "a9z_"}, {Name: "a_"}, {Name: "aa"}, {Name: "a__0"}}},
		"24 letters":    {Syms: []api.Symbol{{Name: strings.Repeat("a", 24)}, {Name: strings.Repeat("a", 23)}, {Name: strings.Repeat("a", 23) + "9"}}},
		"64 functions":  {Funs: many(64, of(of()))},
		"8 parameters":  {Params: many(8, of(of()))},
		"greatest":      {Syms: named(24, 4), Funs: many(64, sortChain(30)), Params: many(8, of(many(8, of(many(6, of())...))...))},
		"shared, small": {Params: many(8, sortShared(5))},
	} {
		if e := term.Check(p); e != api.OK {
			t.Errorf("%s: %d", name, e)
		}
	}
	for name, p := range badPlaces() {
		if e := term.Check(p); e != api.ErrArg {
			t.Errorf("%s: %d", name, e)
		}
	}
}

// small is a place with functions of several orders: $0 and $1 are the document's example.
func small() term.Place {
	o, unary := of(), of(of())
	return term.Place{
		Syms:   []api.Symbol{{Name: "a", Rank: 2}, {Name: "c", Rank: 0}, {Name: "b", Rank: 1}},
		Funs:   []api.Sort{o, of(o, unary), of(unary, o)},
		Params: []api.Sort{unary, o, of(unary)},
	}
}

// inPlace lists the heads of small.
func inPlace() []head {
	return []head{{api.KVar, 0}, {api.KVar, 1}, {api.KVar, 2}, {api.KFun, 0}, {api.KFun, 1}, {api.KFun, 2}, {api.KSym, 0}, {api.KSym, 1}, {api.KSym, 2}}
}

// outside lists heads that are none of those of small.
func outside() []head {
	out := []head{{3, 0}, {-1, 0}, {-1, -1}, {math.MaxInt, 0}, {math.MinInt, 1}, {1 << 32, 0}}
	for _, kind := range []int{api.KVar, api.KFun, api.KSym} {
		for _, n := range []int{-1, 3, math.MaxInt, math.MinInt, 1 << 32, -1 << 32} {
			out = append(out, head{kind, n})
		}
	}
	return out
}

// sortOf is the sort of t in p, as the document describes it.
func sortOf(p term.Place, t api.Term) (api.Sort, bool) {
	var h api.Sort
	if t.Kind == api.KSym {
		if t.N < 0 || t.N >= len(p.Syms) {
			return h, false
		}
		h = of(many(p.Syms[t.N].Rank, of())...)
	} else {
		l := map[int][]api.Sort{api.KVar: p.Params, api.KFun: p.Funs}[t.Kind]
		if t.N < 0 || t.N >= len(l) {
			return h, false
		}
		h = l[t.N]
	}
	if len(h.Args) < len(t.Args) {
		return h, false
	}
	for i, a := range t.Args {
		if x, ok := sortOf(p, a); !ok || sortFace(x) != sortFace(h.Args[i]) {
			return h, false
		}
	}
	return of(h.Args[len(t.Args):]...), true
}

// sorted checks that Sort returns the sort of t in p, or that there is none.
func sorted(t *testing.T, p term.Place, x api.Term) {
	t.Helper()
	want, ok := sortOf(p, x)
	got, e := term.Sort(p, x)
	if ok && (e != api.OK || sortFace(got) != sortFace(want)) || !ok && (e != api.ErrSort || len(got.Args) != 0) {
		t.Errorf("%s: %s %d", face(x), sortFace(got), e)
	}
}

func TestSort(t *testing.T) {
	p := small()
	for _, c := range []struct {
		t    api.Term
		want api.Sort
	}{
		{v(1), of()},
		{v(0), of(of())},
		{v(0, v(1)), of()},
		{v(0, v(0, v(1))), of()},
		{v(2, v(0)), of()},
		{v(2, s(2)), of()},
		{v(2, s(0, s(1))), of()},
		{v(2, f(2, v(0))), of()},
		{f(0), of()},
		{f(1), of(of(), of(of()))},
		{f(1, f(0)), of(of(of()))},
		{f(1, f(0), f(2, s(2))), of()},
		{f(2), of(of(of()), of())},
		{s(0), of(of(), of())},
		{s(0, s(1)), of(of())},
		{s(0, s(1), s(2, v(1))), of()},
		{s(1), of()},
		{s(2), of(of())},
	} {
		if x, e := term.Sort(p, c.t); sortFace(x) != sortFace(c.want) || e != api.OK {
			t.Errorf("%s: %s %d", face(c.t), sortFace(x), e)
		}
	}
	for _, x := range []api.Term{
		v(1, v(1)), v(0, v(0)), v(0, v(1), v(1)), v(2, v(1)), v(2, s(0)), v(2, v(2)), f(0, s(1)), f(1, v(0)), f(1, s(1), s(1)),
		f(1, s(1), s(2), s(1)), s(1, s(1)), s(0, s(1), s(2)), s(0, s(2), s(1)), s(0, s(1), s(1), s(1)), s(2, s(1), s(1)),
		v(0, s(2, v(1, v(1)))), f(2, s(0, s(0, s(1)))), s(0, s(1), s(2, s(2, s(2, s(2))))),
	} {
		if y, e := term.Sort(p, x); len(y.Args) != 0 || e != api.ErrSort {
			t.Errorf("%s: %s %d", face(x), sortFace(y), e)
		}
	}
}

// Every term of at most five nodes has the sort that the document describes, or none.
func TestSortAll(t *testing.T) {
	p := small()
	for _, x := range upTo(4, inPlace()) {
		sorted(t, p, x)
	}
	few := append(inPlace()[:2], inPlace()[5:]...)
	for _, x := range withNodes(5, few) {
		sorted(t, p, x)
	}
	for _, h := range outside() {
		for _, x := range upTo(2, append(inPlace(), h)) {
			sorted(t, p, x)
			sorted(t, p, s(0, s(1), s(0, x, s(1))))
		}
	}
	for _, x := range upTo(2, inPlace()) {
		sorted(t, term.Place{}, x)
	}
}

// Sort returns ErrArg, ErrLimit, ErrSort in this order.
func TestSortErrors(t *testing.T) {
	p := small()
	for name, bad := range badPlaces() {
		for _, x := range []api.Term{v(0), v(0, v(9)), s(0), wide(api.MaxSize + 1)} {
			if y, e := term.Sort(bad, x); len(y.Args) != 0 || e != api.ErrArg {
				t.Errorf("%s, %.40s: %d", name, face(x), e)
			}
		}
	}
	for name, x := range tooLarge() {
		if y, e := term.Sort(p, x); len(y.Args) != 0 || e != api.ErrLimit {
			t.Errorf("%s: %d", name, e)
		}
	}
	large := s(2, s(1))
	for range api.MaxSize - 2 {
		large = s(2, large)
	}
	if _, e := term.Sort(p, large); e != api.OK {
		t.Error(e)
	}
	if _, e := term.Sort(p, s(2, large)); e != api.ErrLimit {
		t.Error(e)
	}
	for _, x := range []api.Term{wide(api.MaxSize), chain(api.MaxSize)} {
		if _, e := term.Sort(p, x); e != api.ErrSort {
			t.Error(e)
		}
	}
}

// Sorts of heads may be as large as sorts are.
func TestSortLarge(t *testing.T) {
	deep := sortChain(30)
	p := term.Place{Funs: []api.Sort{deep}, Params: many(8, of(many(8, of(many(6, of())...))...)), Syms: named(24, 4)}
	deeper := of(deep.Args[0].Args...)
	p.Funs = append(p.Funs, deeper, deep.Args[0])
	sorted(t, p, f(0))
	sorted(t, p, f(0, f(1)))
	sorted(t, p, f(0, f(2)))
	sorted(t, p, f(0, f(0)))
	six := func(n int) api.Term { return v(n, many(8, v(0))...) }
	for n := range 9 {
		sorted(t, p, v(n))
		sorted(t, p, six(n))
	}
	sorted(t, p, s(23, many(4, v(7))...))
	sorted(t, p, s(24))
	p.Funs = many(64, of(of(many(6, of())...)))
	p.Params[7] = of(many(6, of())...)
	for n := range 65 {
		sorted(t, p, f(n, v(7)))
		sorted(t, p, f(n, v(6)))
	}
	full := s(23, many(4, f(63, v(7)))...)
	if x, e := term.Sort(p, full); len(x.Args) != 0 || e != api.OK {
		t.Error(x, e)
	}
}

// P2.5: what is substituted keeps its sort.
func TestSortsStay(t *testing.T) {
	from, to := small(), small()
	to.Params = []api.Sort{of(of(of()), of()), of(), of(of())}
	bySort := map[string][]api.Term{}
	for _, x := range upTo(2, inPlace()) {
		if y, ok := sortOf(to, x); ok {
			bySort[sortFace(y)] = append(bySort[sortFace(y)], x)
		}
	}
	var choices [][]api.Term
	for _, p := range from.Params {
		l := bySort[sortFace(p)]
		if len(l) < 3 {
			t.Fatal(sortFace(p), len(l))
		}
		choices = append(choices, l)
	}
	for i, x := range upTo(4, inPlace()) {
		want, e := term.Sort(from, x)
		if e != api.OK {
			continue
		}
		for j := range 12 {
			var args []api.Term
			for k, l := range choices {
				args = append(args, l[(i+j*(k+1))%len(l)])
			}
			y, e := term.Subst(x, args)
			if e != api.OK {
				t.Fatal(face(x), faces(args), e)
			}
			if got, e := term.Sort(to, y); sortFace(got) != sortFace(want) || e != api.OK {
				t.Fatal(face(x), faces(args), sortFace(got), e)
			}
		}
	}
}

// The document's example.
func TestExample(t *testing.T) {
	p := term.Place{Syms: []api.Symbol{{Name: "a", Rank: 2}, {Name: "c"}}, Params: []api.Sort{of(of()), of()}}
	x := v(0, v(0, v(1)))
	if y, e := term.Sort(p, x); len(y.Args) != 0 || e != api.OK {
		t.Error(y, e)
	}
	c := s(1)
	y, e := term.Subst(x, []api.Term{s(0, c), c})
	if n, _ := term.Size(y); n != 5 || !term.Same(y, s(0, c, s(0, c, c))) || e != api.OK {
		t.Error(face(y), e)
	}
}
