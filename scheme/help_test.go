package scheme_test

import (
	"strconv"
	"strings"
	"testing"

	"virgation/api"
	"virgation/scheme"
)

// The signatures that the chapter lists.
var (
	_ func(api.Scheme) api.Errno           = scheme.Check
	_ func(api.Scheme, api.Scheme) bool    = scheme.Same
	_ func(api.Scheme) (int, api.Errno)    = scheme.Order
	_ func(api.Scheme) ([]int, api.Errno)  = scheme.Ranks
	_ func(api.Scheme) ([]int, api.Errno)  = scheme.Reach
	_ func(api.Scheme) (string, api.Errno) = scheme.Put
	_ func(string) (api.Scheme, api.Errno) = scheme.Get
)

// sums is the scheme of the chapter's example.
const sums = "symbol a 2\nsymbol b 1\nsymbol c 0\nfun s : o = f #c\nfun f : o > o = #a $0 (f (#b $0))\n"

// get returns the scheme of a text.
func get(t *testing.T, text string) api.Scheme {
	t.Helper()
	x, e := scheme.Get(text)
	if e != api.OK {
		t.Fatalf("%.200q: %d", text, e)
	}
	return x
}

func v(n int, args ...api.Term) api.Term { return api.Term{Kind: api.KVar, N: n, Args: args} }
func f(n int, args ...api.Term) api.Term { return api.Term{Kind: api.KFun, N: n, Args: args} }
func s(n int, args ...api.Term) api.Term { return api.Term{Kind: api.KSym, N: n, Args: args} }

// of is the sort of a function with these arguments.
func of(args ...api.Sort) api.Sort { return api.Sort{Args: args} }

// many is a list of n times x.
func many[T any](n int, x T) []T {
	var out []T
	for range n {
		out = append(out, x)
	}
	return out
}

// numbered is a list of n symbols of a rank.
func numbered(n, rank int) []api.Symbol {
	var out []api.Symbol
	for i := range n {
		out = append(out, api.Symbol{Name: "x" + strconv.Itoa(i), Rank: rank})
	}
	return out
}

// loops is a list of n functions of the sort o, each with itself as its body.
func loops(n int) []api.Fun {
	var out []api.Fun
	for i := range n {
		out = append(out, api.Fun{Name: "f" + strconv.Itoa(i), Body: f(i)})
	}
	return out
}

// base has a symbol of each rank from 0 to 4 (with that number), and functions of several orders.
func base() api.Scheme {
	unary := of(of())
	return api.Scheme{
		Syms: []api.Symbol{{Name: "c"}, {Name: "b", Rank: 1}, {Name: "a", Rank: 2}, {Name: "t", Rank: 3}, {Name: "q", Rank: 4}},
		Funs: []api.Fun{
			{Name: "s", Body: f(1, s(0))},
			{Name: "f", Sort: unary, Body: s(2, v(0), f(2, f(1), s(1, v(0))))},
			{Name: "g", Sort: of(unary, of()), Body: v(0, v(0, v(1)))},
		},
	}
}

// with is base with another body of the start.
func with(body api.Term) api.Scheme {
	x := base()
	x.Funs[0].Body = body
	return x
}

// chain has n nodes and the depth n.
func chain(n int) api.Term {
	t := s(0)
	for range n - 1 {
		t = s(1, t)
	}
	return t
}

// bushy has n nodes and few levels.
func bushy(n int) api.Term {
	var kids []api.Term
	left := n - 1
	for k := min(left, 4); k > 0; k-- {
		part := (left + k - 1) / k
		kids = append(kids, bushy(part))
		left -= part
	}
	return s(len(kids), kids...)
}

// shared has 2^n - 1 nodes, in n slices.
func shared(n int) api.Term {
	t := s(0)
	for range n - 1 {
		t = s(2, t, t)
	}
	return t
}

// sortChain has n nodes and the depth n.
func sortChain(n int) api.Sort {
	x := of()
	for range n - 1 {
		x = of(x)
	}
	return x
}

// sortShared has 2^n - 1 nodes, in n slices.
func sortShared(n int) api.Sort {
	x := of()
	for range n - 1 {
		x = of(x, x)
	}
	return x
}

// A head is one of those of which terms are enumerated.
type head struct{ kind, n int }

// withNodes lists all terms with n nodes over some heads.
func withNodes(n int, heads []head) []api.Term {
	var out []api.Term
	for _, l := range lists(n-1, heads) {
		for _, h := range heads {
			out = append(out, api.Term{Kind: h.kind, N: h.n, Args: l})
		}
	}
	return out
}

// lists lists all lists of terms with n nodes together.
func lists(n int, heads []head) [][]api.Term {
	if n == 0 {
		return [][]api.Term{nil}
	}
	var out [][]api.Term
	for k := 1; k <= n; k++ {
		rests := lists(n-k, heads)
		for _, first := range withNodes(k, heads) {
			for _, rest := range rests {
				out = append(out, append([]api.Term{first}, rest...))
			}
		}
	}
	return out
}

// upTo lists all terms with at most n nodes over some heads.
func upTo(n int, heads []head) []api.Term {
	var out []api.Term
	for k := 1; k <= n; k++ {
		out = append(out, withNodes(k, heads)...)
	}
	return out
}

// sortFace is a string of any sort.
func sortFace(x api.Sort) string {
	out := "<"
	for _, a := range x.Args {
		out += sortFace(a)
	}
	return out + ">"
}

// termFace is a string of any term.
func termFace(t api.Term) string {
	out := strconv.Itoa(t.Kind) + "." + strconv.Itoa(t.N)
	for _, a := range t.Args {
		out += "(" + termFace(a) + ")"
	}
	return out
}

// face is a string of any scheme, by which the tests tell schemes from one another.
func face(x api.Scheme) string {
	var out strings.Builder
	for _, y := range x.Syms {
		out.WriteString(strconv.Quote(y.Name) + strconv.Itoa(y.Rank) + ";")
	}
	for _, y := range x.Funs {
		out.WriteString(strconv.Quote(y.Name) + sortFace(y.Sort) + termFace(y.Body) + ";")
	}
	return out.String()
}

// sortOf is the sort of t in x, where the parameters have some sorts, as the document describes it.
func sortOf(x api.Scheme, params []api.Sort, t api.Term) (api.Sort, bool) {
	var h api.Sort
	switch {
	case t.Kind == api.KVar && t.N >= 0 && t.N < len(params):
		h = params[t.N]
	case t.Kind == api.KFun && t.N >= 0 && t.N < len(x.Funs):
		h = x.Funs[t.N].Sort
	case t.Kind == api.KSym && t.N >= 0 && t.N < len(x.Syms):
		h = of(many(x.Syms[t.N].Rank, of())...)
	default:
		return h, false
	}
	if len(h.Args) < len(t.Args) {
		return h, false
	}
	for i, a := range t.Args {
		if y, ok := sortOf(x, params, a); !ok || sortFace(y) != sortFace(h.Args[i]) {
			return h, false
		}
	}
	return of(h.Args[len(t.Args):]...), true
}

// broken lists schemes that are not valid, each because of one rule.
func broken() map[string]api.Scheme {
	out := map[string]api.Scheme{
		"nothing":        {},
		"no functions":   {Syms: base().Syms},
		"25 symbols":     {Syms: numbered(25, 0), Funs: loops(1)},
		"2^16 symbols":   {Syms: numbered(1<<16, 0), Funs: loops(1)},
		"65 functions":   {Funs: loops(65)},
		"2^16 functions": {Funs: loops(1 << 16)},
		"same symbols":   {Syms: []api.Symbol{{Name: "a"}, {Name: "b"}, {Name: "a", Rank: 1}}, Funs: loops(1)},
		"same functions": {Funs: append(loops(63), api.Fun{Name: "f0", Body: f(0)})},
	}
	for _, name := range badNames() {
		key := strconv.Quote(name[:min(len(name), 30)])
		out["the symbol "+key] = api.Scheme{Syms: []api.Symbol{{Name: "a"}, {Name: name}}, Funs: loops(1)}
		out["the function "+key] = api.Scheme{Funs: append(loops(1), api.Fun{Name: name, Body: f(0)})}
		out["the start "+key] = api.Scheme{Funs: []api.Fun{{Name: name, Body: f(0)}}}
	}
	for _, rank := range []int{-1, 5, 1 << 32, -1 << 63, 1<<63 - 1} {
		out["the rank "+strconv.Itoa(rank)] = api.Scheme{Syms: []api.Symbol{{Name: "a", Rank: rank}}, Funs: loops(1)}
	}
	for name, sort := range map[string]api.Sort{
		"9 arguments": of(many(9, of())...), "depth 31": sortChain(31), "63 nodes": sortShared(6), "2^62 nodes": sortShared(62),
		"9 arguments inside": of(of(), of(many(9, of())...)),
	} {
		out["a sort with "+name] = api.Scheme{Funs: append(loops(1), api.Fun{Name: "g", Sort: sort, Body: f(0)})}
	}
	for name, body := range map[string]api.Term{
		"401 nodes": bushy(401), "depth 31": chain(31), "2^62 nodes": shared(62), "2^20 nodes": s(4, many(1<<20, s(0))...),
		"depth 2^16": chain(1 << 16), "a parameter": v(0), "a missing function": f(3), "a missing symbol": s(5), "kind 3": {Kind: 3}, "kind -1": {Kind: -1},
		"function -1": f(-1), "symbol -1": s(-1), "variable -1": v(-1), "too few arguments": s(2, s(0)), "too many arguments": s(0, s(0)),
		"a function alone": f(1), "a wrong argument": f(1, f(1)), "a wrong argument inside": s(2, s(0), s(1, s(1))), "an order too low": f(2, s(0), s(0)),
	} {
		out["the start's body with "+name] = with(body)
	}
	for name, body := range map[string]api.Term{
		"no tree": v(0), "a missing parameter": v(2), "a parameter with too many arguments": v(0, v(1), v(1)), "a parameter with a wrong one": v(0, v(0)),
	} {
		x := base()
		x.Funs[2].Body = body
		out["a body with "+name] = x
	}
	start := base()
	start.Funs[0], start.Funs[1] = start.Funs[1], start.Funs[0]
	start.Funs[0].Body, start.Funs[1].Body = v(0), s(0)
	out["a start of the sort o > o"] = start
	return out
}

// badNames lists texts that are no names.
func badNames() []string {
	return []string{"", "_", "0", "1a", "_a", "A", "aB", "a b", " a", "a ", "a-b", "a.b", "a$", "#a", "a\n", "a\x00", "a`", "a{", "a/", "a:",
		"\u00e4", "a\xff", "\u0430", strings.Repeat("a", 25), strings.Repeat("a", 1<<20)}
}

// fine lists valid schemes.
func fine(t *testing.T) map[string]api.Scheme {
	out := map[string]api.Scheme{
		"base":               base(),
		"the example":        get(t, sums),
		"one loop":           {Funs: loops(1)},
		"empty slices":       {Syms: []api.Symbol{}, Funs: []api.Fun{{Name: "s", Sort: api.Sort{Args: []api.Sort{}}, Body: api.Term{Kind: api.KFun, Args: []api.Term{}}}}},
		"24 symbols":         {Syms: numbered(24, 4), Funs: loops(1)},
		"64 functions":       {Funs: loops(64)},
		"8 parameters":       {Funs: append(loops(1), api.Fun{Name: "g", Sort: of(many(8, of(of()))...), Body: v(7, v(0, f(0)))})},
		"order 29":           {Funs: append(loops(1), api.Fun{Name: "g", Sort: sortChain(30), Body: f(0)})},
		"names alike":        {Syms: []api.Symbol{{Name: "s"}, {Name: "fun"}, {Name: "symbol"}, {Name: "o", Rank: 1}}, Funs: []api.Fun{{Name: "symbol", Body: f(2, s(1))}, {Name: "s", Body: s(0)}, {Name: "o", Sort: of(of()), Body: s(3, v(0))}}},
		"long names":         {Syms: []api.Symbol{{Name: strings.Repeat("a", 24)}, {Name: strings.Repeat("a", 23)}}, Funs: []api.Fun{{Name: strings.Repeat("z", 24), Body: s(0)}, {Name: "z" + strings.Repeat("_", 23), Body: s(1)}}},
		"400 nodes":          with(bushy(400)),
		"depth 30":           with(chain(30)),
		"both":               with(s(2, chain(29), s(4, bushy(92), bushy(92), bushy(92), bushy(92)))),
		"shared parts":       with(shared(8)),
		"part of a symbol":   with(f(2, s(1), f(2, f(2, s(1)), s(0)))),
		"part of a function": {Funs: []api.Fun{{Name: "s", Body: f(1, f(2, f(0)), f(0))}, {Name: "g", Sort: of(of(of()), of()), Body: v(0, v(1))}, {Name: "k", Sort: of(of(), of()), Body: v(0)}}},
	}
	for i, sort := range []api.Sort{of(of()), of(of(), of()), of(of(of())), of(of(of(), of(of())), of())} {
		x := base()
		x.Funs = append(x.Funs, api.Fun{Name: "k", Sort: sort, Body: f(1, f(2, f(1), s(0)))})
		out["one more function "+strconv.Itoa(i)] = x
	}
	return out
}
