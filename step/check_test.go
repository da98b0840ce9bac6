package step_test

import (
	"math"
	"strconv"
	"testing"

	"virgation/api"
	"virgation/step"
)

// orders is a scheme with functions of several orders.
func orders(t *testing.T) api.Scheme {
	return get(t, signs+"fun s : o = f #c\nfun f : o > o = #a $0 (g f (#b $0))\nfun g : (o > o) > o > o = $0 ($0 $1)\n")
}

// P5.1 of all small terms.
func TestCheckAll(t *testing.T) {
	x := orders(t)
	heads := []api.Term{f(0), f(1), f(2), s(0), s(1), s(2), v(0), f(3), s(3), {Kind: 3}}
	var all func(n int) []api.Term
	all = func(n int) []api.Term {
		var out []api.Term
		for _, h := range heads {
			if n == 1 {
				out = append(out, h)
				continue
			}
			for _, a := range all(n - 1) { // one argument
				out = append(out, api.Term{Kind: h.Kind, N: h.N, Args: []api.Term{a}})
			}
			for k := 1; k < n-1; k++ { // two arguments
				for _, a := range all(k) {
					for _, b := range all(n - 1 - k) {
						out = append(out, api.Term{Kind: h.Kind, N: h.N, Args: []api.Term{a, b}})
					}
				}
			}
		}
		return out
	}
	good := 0
	for n := 1; n <= 4; n++ {
		for _, y := range all(n) {
			want := api.ErrSort
			if z, ok := sortOf(x, nil, y); ok && len(z.Args) == 0 {
				want = api.OK
				good++
			}
			if e := step.Check(x, y); e != want {
				t.Errorf("%s: %d, not %d", face(y), e, want)
			}
		}
	}
	if good < 40 {
		t.Error(good)
	}
}

func TestCheck(t *testing.T) {
	x := orders(t)
	for _, y := range []api.Term{
		f(0), s(2), s(1, s(2)), s(0, s(2), f(0)), f(1, f(0)), f(1, f(1, s(2))), f(2, f(1), s(2)), f(2, s(1), s(2)), f(2, s(0, f(0)), s(2)),
		f(2, f(2, f(2, f(1))), s(2)), {Kind: api.KSym, N: 2, Args: []api.Term{}}, chain(api.MaxSize), bushy(api.MaxSize), shared(16),
		f(1, chain(api.MaxSize-1)), s(1, f(2, f(2, f(1)), bushy(api.MaxSize-5))),
	} {
		if e := step.Check(x, y); e != api.OK {
			t.Errorf("%.80s: %d", face(y), e)
		}
	}
	for _, y := range []api.Term{
		{}, v(0), v(-1), v(0, s(2)), s(1, v(0)), f(1, v(0)), f(2, v(0), v(1)), f(2, f(1), s(1, v(0))), // not closed
		f(1), f(2), f(2, f(1)), s(0), s(1), s(0, s(2)), s(0, f(0)), // of another sort
		f(0, s(2)), s(2, s(2)), s(1, s(2), s(2)), f(1, s(2), s(2)), f(2, f(1), s(2), s(2)), s(0, s(2), s(2), s(2)), // applied too often
		f(1, f(1)), f(2, s(2), s(2)), f(2, s(0), s(2)), f(2, f(2), s(2)), f(2, f(1), f(1)), s(1, s(1)), s(0, s(2), s(1)), // to others
		s(0, s(2), s(0, s(2), s(0, s(2), s(0, s(2), f(1))))), f(1, s(1, f(2, f(1), s(0, s(2), v(0))))), s(0, f(0, f(0)), s(2)),
		s(0, chain(api.MaxSize-2), v(0)),
	} {
		fails(t, face(y)[:min(len(face(y)), 80)], x, y, api.ErrSort)
	}
	for _, n := range []int{-1, 3, 4, 1 << 32, -1 << 32, math.MaxInt, math.MinInt} {
		for _, kind := range []int{api.KVar, api.KFun, api.KSym} {
			for _, y := range []api.Term{{Kind: kind, N: n}, s(1, api.Term{Kind: kind, N: n}), {Kind: kind, N: n, Args: []api.Term{s(2)}}} {
				fails(t, face(y), x, y, api.ErrSort)
			}
		}
	}
	for _, kind := range []int{-1, 3, 4, 1 << 32, 1<<32 + 1, -1 << 32, math.MaxInt, math.MinInt} {
		for _, y := range []api.Term{{Kind: kind}, s(1, api.Term{Kind: kind}), f(1, api.Term{Kind: kind, N: 2}), {Kind: kind, Args: []api.Term{s(2)}}} {
			fails(t, face(y), x, y, api.ErrSort)
		}
	}
}

// A term that has the sort o in one scheme has none in another.
func TestCheckPlace(t *testing.T) {
	one := get(t, "symbol c 0\nfun s : o = #c\n")
	for _, y := range []api.Term{f(1, s(0)), s(1, s(0)), s(0, s(0)), s(1), f(1)} {
		fails(t, face(y), one, y, api.ErrSort)
	}
	none := api.Scheme{Funs: loops(64)}
	if e := step.Check(none, f(63)); e != api.OK {
		t.Error(e)
	}
	fails(t, "no symbols", none, s(0), api.ErrSort)
	fails(t, "function 64", none, f(64), api.ErrSort)
	wide := api.Scheme{Syms: numbered(24, 4), Funs: append(loops(1), api.Fun{Name: "g", Sort: of(many(8, of(of()))...), Body: v(7, v(0, f(0)))})}
	arg := s(23, f(0), f(0), f(0))
	if e := step.Check(wide, f(1, many(8, arg)...)); e != api.OK {
		t.Error(e)
	}
	fails(t, "7 arguments", wide, f(1, many(7, arg)...), api.ErrSort)
	fails(t, "8 arguments, one of o", wide, f(1, append(many(7, arg), f(0))...), api.ErrSort)
	fails(t, "9 arguments", wide, f(1, many(9, arg)...), api.ErrSort)
}

// ErrScheme comes ahead of ErrLimit, this ahead of ErrSort, and all of them ahead of ErrArg.
func TestCheckFirst(t *testing.T) {
	x := orders(t)
	for name, y := range tooLarge() {
		fails(t, name, x, y, api.ErrLimit)
	}
	for name, y := range broken() {
		for i, z := range []api.Term{f(0), {}, v(0), s(0), f(-1), chain(api.MaxSize + 1), shared(62), {Kind: 7, N: 1, Args: []api.Term{f(0)}}} {
			fails(t, name+" "+strconv.Itoa(i), y, z, api.ErrScheme)
		}
	}
	for _, fuel := range []int{-1, -2, math.MinInt, -1 << 32, api.MaxSteps + 1, 1 << 32, 1<<32 + 1, math.MaxInt} {
		for _, y := range []api.Term{f(0), s(2), f(2, f(1), s(2)), chain(api.MaxSize)} {
			fuelless(t, face(y)[:3], x, y, fuel, api.ErrArg)
		}
	}
}
