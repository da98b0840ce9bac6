package grow_test

import (
	"math"
	"math/rand"
	"testing"

	"virgation/api"
	"virgation/grow"
	"virgation/step"
)

// P7.2: the document's example, and others of the same scheme.
func TestAt(t *testing.T) {
	x := get(t, sums)
	for _, c := range []struct {
		path []int
		want int
	}{
		{nil, 0}, {[]int{}, 0}, {[]int{0}, 2}, {[]int{1}, 0}, {[]int{1, 0}, 1}, {[]int{1, 0, 0}, 2}, {[]int{1, 1}, 0}, {[]int{1, 1, 0}, 1},
		{[]int{1, 1, 0, 0}, 1}, {[]int{1, 1, 0, 0, 0}, 2}, {[]int{1, 1, 1, 1}, 0},
	} {
		at(t, x, c.path, 2, c.want, api.OK)
		at(t, x, c.path, api.MaxSteps, c.want, api.OK)
		at(t, x, c.path, 1, 0, api.ErrFuel) // at the root
		at(t, x, c.path, 0, 0, api.ErrFuel)
	}
	for _, n := range []int{-1, 2, 3, math.MinInt, math.MaxInt, 1 << 32, -1 << 32} {
		at(t, x, []int{n}, 2, 0, api.ErrNone)
		at(t, x, []int{1, n}, 2, 0, api.ErrNone)
		at(t, x, []int{1, 1, n, 0}, 2, 0, api.ErrNone)
	}
	for _, path := range [][]int{{0, 0}, {0, -1}, {0, 1}, {1, 0, 1}, {1, 0, 0, 0}, {0, 0, 0, 0, 0}} {
		at(t, x, path, 2, 0, api.ErrNone)
	}
}

// Paths have up to MaxHigh elements, also where no finite tree is that large.
func TestAtFar(t *testing.T) {
	x := get(t, sums)
	for _, n := range []int{0, 1, 2, 20, 150, 198, 199} {
		at(t, x, many(n+1, 1), 2, 0, api.OK)
		if n > 0 {
			at(t, x, append(many(n, 1), 0), 2, 1, api.OK)
		}
	}
	at(t, x, append(many(99, 1), many(99, 0)...), 2, 1, api.OK)
	at(t, x, append(many(99, 1), many(100, 0)...), 2, 2, api.OK)
	at(t, x, append(many(99, 1), many(101, 0)...), 2, 0, api.ErrNone)
	x = get(t, signs+"symbol q 4\nfun s : o = #q s s s (#q s s s s)\n")
	at(t, x, many(200, 3), 1, 3, api.OK)
	for _, n := range []int{201, 202, 1000, 1 << 20} {
		for _, k := range []int{3, 4, -1} {
			at(t, x, many(n, k), 1, 0, api.ErrArg)
			at(t, x, many(n, k), 0, 0, api.ErrArg)
		}
	}
}

// ErrScheme comes ahead of ErrArg, and both ahead of what is met on the way.
func TestAtArguments(t *testing.T) {
	x := get(t, sums)
	for _, path := range [][]int{nil, {1}, {0, 0}, {7}, many(200, 1), many(201, 1)} {
		for _, fuel := range []int{-1, -2, math.MinInt, -1 << 32, api.MaxSteps + 1, api.MaxSteps + 2, 1 << 32, 1<<32 + 1, math.MaxInt} {
			at(t, x, path, fuel, 0, api.ErrArg)
		}
		for _, y := range broken() {
			for _, fuel := range []int{-1, 0, 5, api.MaxSteps, api.MaxSteps + 1} {
				at(t, y, path, fuel, 0, api.ErrScheme)
			}
		}
	}
}

// The errors on the way come node by node.
func TestAtOnTheWay(t *testing.T) {
	x := get(t, signs+"fun s : o = #a (#b (g #c)) (#a loop (d (d #c)))\nfun loop : o = loop\nfun g : o > o = g (#a $0 $0)\nfun d : o > o = $0\n")
	for _, rest := range [][]int{nil, {0}, {-1}, {2, 2}} {
		at(t, x, append([]int{0, 0}, rest...), 100, 0, api.ErrLimit)
		at(t, x, append([]int{0, 0}, rest...), api.MaxSteps, 0, api.ErrLimit)
		at(t, x, append([]int{0, 0}, rest...), 16, 0, api.ErrLimit)
		at(t, x, append([]int{0, 0}, rest...), 15, 0, api.ErrFuel)
		at(t, x, append([]int{1, 0}, rest...), 100, 0, api.ErrFuel)
		at(t, x, append([]int{1, 0}, rest...), api.MaxSteps, 0, api.ErrFuel)
		at(t, x, append([]int{1, 1}, rest...), 1, 0, api.ErrFuel)
		at(t, x, append([]int{0, 1}, rest...), 100, 0, api.ErrNone)
		at(t, x, append([]int{2, 0}, rest...), 100, 0, api.ErrNone)
		at(t, x, append([]int{2, 0}, rest...), 0, 0, api.ErrFuel)
	}
	at(t, x, []int{0}, 1, 1, api.OK)
	at(t, x, []int{1}, 1, 0, api.OK)
	at(t, x, []int{1, 1}, 2, 2, api.OK)
	at(t, x, []int{1, 1, 0}, 2, 0, api.ErrNone)

	x = get(t, signs+"fun s : o = g #c\nfun g : o > o = g (#a $0 $0)\n")
	at(t, x, nil, 17, 0, api.ErrLimit) // at the root
	at(t, x, []int{5}, 17, 0, api.ErrLimit)
	at(t, x, []int{5}, 16, 0, api.ErrFuel)

	// What is not on the path is not reduced.
	x = powers(t, "#a (p18 (#b #c)) (#a s s)")
	at(t, x, []int{1, 1, 0}, 1, 0, api.ErrFuel)
	at(t, x, []int{1, 1, 1, 1}, 1, 0, api.OK)
	at(t, x, []int{1, 1, 0}, 1<<19-1, 1, api.OK)
	at(t, x, []int{1, 1, 0}, 1<<19-2, 0, api.ErrFuel)
	at(t, x, []int{1, 1, 0, 0}, 1<<19-1, 2, api.OK)
}

// P7.2 of many paths of many schemes.
func TestAtRandom(t *testing.T) {
	r := rand.New(rand.NewSource(72))
	met := map[api.Errno]int{}
	for range 1500 {
		x, _ := random(r)
		for range 8 {
			var path []int
			for range r.Intn(7) {
				path = append(path, r.Intn(8)%5%4%3)
			}
			fuel := []int{1, 2, 5, 30}[r.Intn(4)]
			want, err := symbolAt(x, path, fuel)
			at(t, x, path, fuel, want, err)
			met[err]++
		}
	}
	if met[api.OK] < 1500 || met[api.ErrNone] < 2000 || met[api.ErrFuel] < 1000 || met[api.ErrLimit] < 30 {
		t.Error(met)
	}
}

// symbolAt is what At returns, as the document describes it.
func symbolAt(x api.Scheme, path []int, fuel int) (int, api.Errno) {
	y, _, e := step.Run(x, f(0), fuel)
	for _, n := range path {
		if e != api.OK {
			return 0, e
		}
		if n < 0 || n >= len(y.Args) {
			return 0, api.ErrNone
		}
		y, _, e = step.Run(x, y.Args[n], fuel)
	}
	if e != api.OK {
		return 0, e
	}
	return y.N, api.OK
}

// No path is changed or kept.
func TestAtMemory(t *testing.T) {
	x := get(t, sums)
	path := append(make([]int, 0, 9), 1, 1, 0)
	for range 3 {
		at(t, x, path, 2, 1, api.OK)
		if room := path[:9]; len(path) != 3 || path[0] != 1 || path[1] != 1 || path[2] != 0 || room[3] != 0 || room[8] != 0 {
			t.Error(room)
		}
	}
	n, e := grow.At(x, path, 2)
	path[2] = 1
	if m, g := grow.At(x, path, 2); n != 1 || m != 0 || e != api.OK || g != api.OK {
		t.Error(n, m, e, g)
	}
}
