package closure_test

import (
	"runtime"
	"runtime/debug"
	"sort"
	"strconv"
	"testing"

	"virgation/api"
	"virgation/closure"
	"virgation/grow"
)

// growing lists schemes that need ever more closures, and whose trees are unknown.
func growing() []string {
	return []string{
		signs + "fun s : o = f #c\nfun f : o > o = f (#b $0)\n",
		signs + "fun s : o = f #c #c\nfun f : o > o > o = f (#a $0 $1) (#a $1 $0)\n",
		signs + "fun s : o = f #b #c\nfun f : (o > o) > o > o = f (g $0) ($0 $1)\nfun g : (o > o) > o > o = $0 ($0 $1)\n",
		signs + "fun s : o = f #c #c #c #c #c #c #c #c\nfun f : " + eight + " = f (#a $7 $0) (#a $0 $1) (#a $1 $2) (#a $2 $3) (#a $3 $4) (#a $4 $5) (#a $5 $6) (#a $6 $7)\n",
	}
}

// P8.2: with 2000 steps, its own and those of the machines that it was forked from, none gives up.
func TestManySteps(t *testing.T) {
	for _, text := range growing() {
		m := at(t, text)
		for range 2000 {
			k := m.Fork()
			goes(t, m, 0, 0, 0, api.ErrFuel)
			goes(t, m, 1, 0, 0, api.ErrFuel)
			goes(t, k, 1, 0, 0, api.ErrFuel)
			m = k
		}
		goes(t, at(t, text), 2000, 0, 0, api.ErrFuel)
	}
}

// givesUp returns after how many steps a machine gives up, which it then has done.
func givesUp(t *testing.T, m *closure.Machine) int {
	t.Helper()
	const fuel = 1 << 12
	for steps := 0; steps < 10*api.MaxSteps; steps += fuel {
		before := m.Fork()
		if _, _, e := m.Go(fuel); e == api.ErrLimit {
			return steps + sort.Search(fuel, func(n int) bool {
				_, _, e := before.Fork().Go(n)
				return e == api.ErrLimit
			})
		}
	}
	t.Fatal("it never gives up")
	return 0
}

// A machine that gives up does so for ever, and so do its forks. How the fuel is divided has no part in it.
func TestGivesUp(t *testing.T) {
	for _, text := range growing() {
		m := at(t, text)
		other := m.Fork()
		steps := givesUp(t, m)
		if steps < 100_000 {
			t.Errorf("after %d steps", steps)
		}
		k := m.Fork()
		for _, x := range []*closure.Machine{m, k, k.Fork(), m} {
			for _, fuel := range []int{0, 1, 2, 1000, api.MaxSteps} {
				goes(t, x, fuel, 0, 0, api.ErrLimit)
				moves(t, x, 0, api.ErrOpen)
			}
			for _, fuel := range []int{-1, api.MaxSteps + 1} {
				goes(t, x, fuel, 0, 0, api.ErrArg)
			}
			stands(t, x)
		}
		for left := steps - 1; left > 0; {
			fuel := min(left, 7+left/3)
			goes(t, other, fuel, 0, 0, api.ErrFuel)
			goes(t, other, 0, 0, 0, api.ErrFuel)
			left -= fuel
		}
		goes(t, other.Fork(), 1, 0, 0, api.ErrLimit)
		goes(t, other.Fork(), api.MaxSteps, 0, 0, api.ErrLimit)
		goes(t, other, 0, 0, 0, api.ErrFuel)
	}
}

// Where only few closures are in use a machine goes on for ever.
func TestGoesOn(t *testing.T) {
	for _, text := range []string{
		"fun s : o = s\n",
		signs + "fun s : o = f #c (#b #c)\nfun f : o > o > o = g $1 $0\nfun g : o > o > o = f $0 $0\n",
		signs + "fun s : o = on id #c\nfun on : (o > o) > o > o = $0 (on $0 $1)\nfun id : o > o = $0\n",
	} {
		m := at(t, text)
		for range 8 {
			goes(t, m, api.MaxSteps, 0, 0, api.ErrFuel)
		}
	}
	m := at(t, powers("p19 (#b s)")) // each of its places needs MaxSteps steps
	for range 6 {
		goes(t, m, api.MaxSteps, 1, api.MaxSteps, api.OK)
		moves(t, m, 0, api.OK)
	}
}

// What is too large for layer 5 may need few closures.
func TestLargeTerm(t *testing.T) {
	text := signs + "fun s : o = d0 #c\n"
	for i := range 50 {
		text += "fun d" + strconv.Itoa(i) + " : o > o = d" + strconv.Itoa(i+1) + " (#a $0 $0)\n"
	}
	x := get(t, text+"fun d50 : o > o = $0\n")
	if _, e := grow.At(x, nil, 100); e != api.ErrLimit {
		t.Fatal(e)
	}
	m := root(t, x)
	goes(t, m, 51, 0, 0, api.ErrFuel)
	goes(t, m, 1, 0, 1, api.OK)
	for i := range 50 {
		goes(t, m, 0, 0, 0, api.OK)
		moves(t, m, i%2, api.OK)
		m.Go(0)
	}
	goes(t, m, 0, 2, 0, api.OK)
}

// held is how much memory the heap has.
func held() int {
	var m runtime.MemStats
	runtime.ReadMemStats(&m)
	return int(m.HeapSys - m.HeapReleased)
}

// What a term has lost is not kept: with all that they lose here these would need some hundred megabytes, or give up.
func TestKeepsLittle(t *testing.T) {
	const seven = "o > o > o > o > o > o > o > o"
	for _, text := range []string{
		"symbol c 0\nfun s : o = f #c #c #c #c #c #c #c #c\nfun f : " + eight + " = f (g $1) $1 $2 $3 $4 $5 $6 $7\nfun g : o > o = f $0 $0 $0 $0 $0 $0 $0 $0\n",
		"symbol c 0\nfun s : o = f i #c #c #c #c #c #c #c\nfun f : (o > o) > " + seven + " = f (g i) $1 $2 $3 $4 $5 $6 $7\nfun g : (o > o) > o > o = $0 $1\nfun i : o > o = $0\n",
	} {
		debug.FreeOSMemory()
		before := held()
		m := at(t, text)
		for range 4 {
			goes(t, m, api.MaxSteps, 0, 0, api.ErrFuel)
		}
		if grown := held() - before; grown > 50<<20 {
			t.Error(grown)
		}
	}
}

// However often a parameter is handed on, its value is found at once: else this test would not end in any bearable time.
func TestNoChains(t *testing.T) {
	for _, text := range []string{
		signs + "fun s : o = f #c id\nfun f : o > (o > o) > o = $1 (f $0 $1)\nfun id : o > o = $0\n",
		signs + "fun s : o = f (k #c) id\nfun f : (o > o) > (o > o) > o = g $0 $1\nfun g : (o > o) > (o > o) > o = f $0 $1\nfun k : o > o > o = $0\nfun id : o > o = $0\n",
	} {
		m := at(t, text)
		for range 4 {
			goes(t, m, api.MaxSteps, 0, 0, api.ErrFuel)
		}
	}
}
