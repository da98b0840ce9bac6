package infer_test

import (
	"math"
	"strconv"
	"strings"
	"testing"

	"virgation/api"
	"virgation/infer"
)

// badNames lists texts that are no names.
func badNames() []string {
	return []string{"", "_", "0", "1a", "_a", "A", "aB", "a b", " a", "a ", "a-b", "a.b", "a$", "#a", "a\n", "a\x00", "a`", "a{", "a/", "a:",
		"\u00e4", "a\xff", "\u0430", strings.Repeat("a", 25), strings.Repeat("a", 1<<20)}
}

// badSyms lists lists that are no symbols, each because of one rule.
func badSyms() map[string][]api.Symbol {
	out := map[string][]api.Symbol{
		"25 symbols":         numbered(25, 0),
		"2^16 symbols":       numbered(1<<16, 0),
		"the same name":      {{Name: "a"}, {Name: "a"}},
		"the same name, far": append(syms(), api.Symbol{Name: "a"}),
	}
	for _, name := range badNames() {
		out["the symbol "+strconv.Quote(name[:min(len(name), 30)])] = append(syms(), api.Symbol{Name: name})
	}
	for _, rank := range []int{-1, 5, math.MinInt, math.MaxInt, 1 << 32, -1 << 32} {
		out["the rank "+strconv.Itoa(rank)] = append(syms(), api.Symbol{Name: "z", Rank: rank})
	}
	return out
}

// with is a start, and a function of two parameters with this body.
func with(body api.Term) []infer.Loose {
	return []infer.Loose{{Name: "s", Body: s(2)}, {Name: "f", Params: 2, Body: body}}
}

// badLoose lists what is no list of loose functions over syms, each because of one rule.
func badLoose() map[string][]infer.Loose {
	out := map[string][]infer.Loose{
		"no functions":           nil,
		"an empty list":          {},
		"65 functions":           idle(65),
		"2^16 functions":         idle(1 << 16),
		"same names":             {{Name: "s", Body: s(2)}, {Name: "s", Body: s(2)}},
		"same names, far":        append(idle(63), infer.Loose{Name: "f0", Params: 1, Body: s(2)}),
		"a start with parameter": {{Name: "s", Params: 1, Body: s(2)}},
		"a start with 8":         {{Name: "s", Params: 8, Body: v(0)}, {Name: "f", Body: s(2)}},
	}
	for _, name := range badNames() {
		key := strconv.Quote(name[:min(len(name), 30)])
		out["the function "+key] = append(idle(2), infer.Loose{Name: name, Body: s(2)})
		out["the start "+key] = []infer.Loose{{Name: name, Body: s(2)}}
	}
	for _, n := range []int{-1, 9, 10, math.MinInt, math.MaxInt, 1 << 32, -1 << 32} {
		out[strconv.Itoa(n)+" parameters"] = append(idle(2), infer.Loose{Name: "z", Params: n, Body: s(2)})
		out["a start with "+strconv.Itoa(n)] = []infer.Loose{{Name: "s", Params: n, Body: s(2)}}
	}
	for name, body := range map[string]api.Term{
		"401 nodes": bushy(401), "depth 31": chain(31), "2^62 nodes": shared(62), "2^20 nodes": s(4, many(1<<20, s(2))...), "depth 2^17": chain(1 << 17),
		"both": s(0, chain(30), bushy(400)), "kind 3": {Kind: 3}, "kind -1": {Kind: -1}, "a far kind": {Kind: math.MaxInt}, "a kind far below": {Kind: math.MinInt},
		"a kind that is far": {Kind: 1 << 32},
	} {
		out["a body with "+name] = with(body)
		out["a start's body with "+name] = []infer.Loose{{Name: "s", Body: body}}
	}
	for _, n := range []int{-1, 2, 3, 5, 6, math.MinInt, math.MaxInt, 1 << 32, -1 << 32} {
		for kind, count := range []int{2, 2, 5} {
			if n >= 0 && n < count {
				continue
			}
			x := api.Term{Kind: kind, N: n}
			name := "head " + strconv.Itoa(kind) + "." + strconv.Itoa(n)
			out["the "+name] = with(x)
			out["the applied "+name] = with(api.Term{Kind: kind, N: n, Args: []api.Term{v(0)}})
			out["inside the "+name] = with(s(0, v(1), f(1, s(1, x))))
		}
	}
	out["a variable of another function"] = []infer.Loose{{Name: "s", Body: s(2)}, {Name: "f", Params: 3, Body: v(2)}, {Name: "g", Params: 2, Body: v(2)}}
	out["a variable in the start"] = []infer.Loose{{Name: "s", Body: f(1, v(0))}, {Name: "f", Params: 1, Body: v(0)}}
	return out
}

// fine lists loose functions over syms; some of them have no sorts.
func fine() map[string][]infer.Loose {
	out := map[string][]infer.Loose{
		"one":           idle(1),
		"64 functions":  idle(64),
		"8 parameters":  {{Name: "s", Body: s(2)}, {Name: "f", Params: 8, Body: v(7, v(0), f(0))}},
		"no sorts":      loose("s = f c", "f x = x x"),
		"the example":   loose("s = f c", "f x = a x (f (b x))"),
		"names alike":   {{Name: "a", Body: f(1, s(2))}, {Name: "c", Params: 1, Body: v(0)}},
		"long names":    {{Name: strings.Repeat("a", 24), Body: s(2)}, {Name: strings.Repeat("a", 23) + "9", Body: s(2)}, {Name: "a_", Body: s(2)}, {Name: "z", Body: s(2)}},
		"400 nodes":     with(bushy(400)),
		"depth 30":      with(chain(30)),
		"both limits":   {{Name: "s", Body: s(0, chain(29), s(4, bushy(92), bushy(92), bushy(92), bushy(92)))}},
		"shared parts":  with(shared(8)),
		"all heads":     with(s(4, s(3, s(0, s(1), s(2))), v(1, v(0)), f(1, f(0)), s(2, s(2)))),
		"399 arguments": with(v(0, many(399, v(1))...)),
	}
	return out
}

func TestCheck(t *testing.T) {
	for name, l := range fine() {
		if e := infer.Check(syms(), l); e != api.OK {
			t.Errorf("%s: %d", name, e)
		}
	}
	for name, l := range badLoose() {
		if e := infer.Check(syms(), l); e != api.ErrForm {
			t.Errorf("%s: %d", name, e)
		}
	}
	for name, y := range badSyms() {
		if e := infer.Check(y, loose("s = c")); e != api.ErrArg {
			t.Errorf("%s: %d", name, e)
		}
	}
	y, l := numbered(24, 4), []infer.Loose{{Name: "s", Body: s(23)}}
	if e := infer.Check(y, l); e != api.OK {
		t.Error(e)
	}
	l[0].Body.N = 24
	if e := infer.Check(y, l); e != api.ErrForm {
		t.Error(e)
	}
	if e := infer.Check(nil, []infer.Loose{{Name: "s", Body: f(0)}}); e != api.OK {
		t.Error(e)
	}
	if e := infer.Check([]api.Symbol{}, []infer.Loose{{Name: "s", Body: api.Term{Kind: api.KFun, Args: []api.Term{}}}}); e != api.OK {
		t.Error(e)
	}
	if e := infer.Check(nil, idle(1)); e != api.ErrForm {
		t.Error(e)
	}
}

// The other functions return the errors of Check first: ErrArg ahead of ErrForm, and both ahead of theirs.
func TestCheckFirst(t *testing.T) {
	none, large := loose("s = f c", "f x = x x"), loose("s = f c", "f x = x c c c c c c c c c")
	for name, y := range badSyms() {
		for _, l := range [][]infer.Loose{loose("s = c"), none, large, nil, idle(65), with(v(2))} {
			if e := infer.Check(y, l); e != api.ErrArg {
				t.Errorf("%s: %d", name, e)
			}
			fails(t, name, y, l, api.ErrArg)
		}
	}
	for name, l := range badLoose() {
		fails(t, name, syms(), l, api.ErrForm)
	}
	// What is wrong may stand behind what has no sorts, or too large ones.
	for _, l := range [][]infer.Loose{none, large} {
		for _, x := range []infer.Loose{{Name: "g", Body: s(5)}, {Name: "f", Body: s(2)}, {Name: "g", Params: 9, Body: s(2)}, {Name: "g", Body: chain(31)}} {
			bad := append(l[:2:2], x)
			if e := infer.Check(syms(), bad); e != api.ErrForm {
				t.Errorf("%s: %d", face(bad), e)
			}
			fails(t, face(bad), syms(), bad, api.ErrForm)
		}
	}
}
