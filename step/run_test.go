package step_test

import (
	"math/rand"
	"runtime"
	"runtime/debug"
	"slices"
	"strconv"
	"testing"

	"virgation/api"
	"virgation/step"
	"virgation/term"
)

// ran is what Run and Heads return, as the document describes it.
type ran struct {
	term  api.Term
	steps int
	heads []int
	e     api.Errno
}

// reduced is t, reduced with some fuel.
func reduced(x api.Scheme, t api.Term, fuel int) ran {
	var out ran
	for t.Kind == api.KFun {
		if len(out.heads) == fuel {
			return ran{heads: out.heads, e: api.ErrFuel}
		}
		next, e := stepped(x, t)
		if e != api.OK {
			return ran{e: e}
		}
		out.heads = append(out.heads, t.N)
		t = next
	}
	out.term, out.steps = t, len(out.heads)
	return out
}

// runs checks Run and Heads with some fuel.
func runs(t *testing.T, x api.Scheme, y api.Term, fuel int, want ran) {
	t.Helper()
	if z, n, e := step.Run(x, y, fuel); !term.Same(z, want.term) || n != want.steps || e != want.e {
		t.Errorf("%.200s, %d: %.200s %d %d, not %.200s %d %d", face(y), fuel, face(z), n, e, face(want.term), want.steps, want.e)
	}
	if l, e := step.Heads(x, y, fuel); !slices.Equal(l, want.heads) || e != want.e {
		t.Errorf("%.200s, %d: %d functions, %d, not %d, %d", face(y), fuel, len(l), e, len(want.heads), want.e)
	}
}

// P5.3: the document's example, and others.
func TestRun(t *testing.T) {
	x := get(t, sums)
	done := ran{term: read(t, x, "#a #c (f (#b #c))"), steps: 2, heads: []int{0, 1}}
	runs(t, x, f(0), 0, ran{e: api.ErrFuel})
	runs(t, x, f(0), 1, ran{heads: []int{0}, e: api.ErrFuel})
	for _, fuel := range []int{2, 3, 1000, api.MaxSteps} {
		runs(t, x, f(0), fuel, done)
	}
	runs(t, x, f(1, f(1, f(0))), 1, ran{term: read(t, x, "#a (f s) (f (#b (f s)))"), steps: 1, heads: []int{1}})

	x = get(t, signs+`fun s : o = twice (twice add) zero
fun zero : o = #c
fun add : o > o = if (#a #c) k $0
fun twice : (o > o) > o > o = $0 ($0 $1)
fun if : (o > o) > (o > o > o) > o > o = $1 (#b $2) ($0 $2)
fun k : o > o > o = $0
`)
	want := ran{term: read(t, x, "#b (add (twice add zero))"), steps: 6, heads: []int{0, 3, 3, 2, 4, 5}}
	runs(t, x, f(0), 6, want)
	runs(t, x, f(0), api.MaxSteps, want)
	for fuel := range 6 {
		runs(t, x, f(0), fuel, ran{heads: want.heads[:fuel], e: api.ErrFuel})
	}
}

// powers is a scheme whose functions p0, p1, .. p19 make 2^k - 1 steps (k = 1, 2, .. 20), and then those of their argument.
func powers(t *testing.T) api.Scheme {
	text := signs + "fun s : o = p19 #c\nfun p0 : o > o = $0\n"
	for i := range 19 {
		p := "p" + strconv.Itoa(i)
		text += "fun p" + strconv.Itoa(i+1) + " : o > o = " + p + " (" + p + " $0)\n"
	}
	return get(t, text)
}

// MaxSteps steps can be made, and no more are.
func TestRunLong(t *testing.T) {
	x := powers(t)
	for _, fuel := range []int{api.MaxSteps, api.MaxSteps - 1, 1 << 19} {
		y, n, e := step.Run(x, f(0), fuel)
		l, g := step.Heads(x, f(0), fuel)
		if fuel == api.MaxSteps && (face(y) != face(s(2)) || n != fuel || e != api.OK || g != api.OK) {
			t.Error(face(y), n, e, g)
		}
		if fuel < api.MaxSteps && (!zero(y) || n != 0 || e != api.ErrFuel || g != api.ErrFuel) {
			t.Error(face(y), n, e, g)
		}
		if len(l) != fuel || l[0] != 0 || l[1] != 20 || l[20] != 1 || l[21] != 1 || l[22] != 2 {
			t.Error(len(l))
		}
	}
	runs(t, x, f(20, s(2)), api.MaxSteps, reduced(x, f(20, s(2)), api.MaxSteps))
	fuelFails(t, x, f(1, f(0)), api.MaxSteps)
	fuelFails(t, x, f(20, f(0)), api.MaxSteps)
	fuelFails(t, get(t, "fun s : o = s\n"), f(0), api.MaxSteps)
	fuelFails(t, get(t, "fun s : o = t (u s)\nfun t : o > o = s\nfun u : o > o = $0\n"), f(0), api.MaxSteps)
}

// fuelFails checks that t is not done after some fuel, and that all functions on the way are told.
func fuelFails(t *testing.T, x api.Scheme, y api.Term, fuel int) {
	t.Helper()
	if z, n, e := step.Run(x, y, fuel); !zero(z) || n != 0 || e != api.ErrFuel {
		t.Errorf("%.80s %d %d", face(z), n, e)
	}
	if l, e := step.Heads(x, y, fuel); len(l) != fuel || e != api.ErrFuel {
		t.Error(len(l), e)
	}
}

// Large terms and large bodies make steps no longer: else these tests would not end in any bearable time.
func TestRunLarge(t *testing.T) {
	x := get(t, signs+"fun s : o = #c\nfun f : o > o = f $0\nfun g : o > (o > o > o) > o = $1 $0 $0\nfun k : o > o > o = g $0 k\n")
	for _, arg := range []api.Term{chain(api.MaxSize - 1), bushy(api.MaxSize - 1)} {
		fuelFails(t, x, f(1, arg), api.MaxSteps)
	}
	fuelFails(t, x, f(2, bushy(api.MaxSize/2-1), f(3)), api.MaxSteps)
	x = get(t, signs+"fun s : o = #c\nfun f : o > o > o > o > o > o > o > o > o = f $7 $0 $1 $2 $3 $4 $5 $6\n")
	fuelFails(t, x, f(1, many(8, chain(api.MaxSize/8-1))...), api.MaxSteps)

	x = get(t, signs+"fun s : o = f #c #c\nfun f : o > o > o = f $0 #c\n")
	x.Funs[1].Body.Args[1] = full(8, s(1, v(0))) // 383 nodes, with many parameters
	fuelFails(t, x, f(0), api.MaxSteps)

	// Again and again a function is taken from one parameter, or from the term.
	x = get(t, signs+"fun s : o = on id #c\nfun on : (o > o) > o > o = $0 (on $0 $1)\nfun id : o > o = $0\n")
	fuelFails(t, x, f(0), api.MaxSteps)
	y := s(2)
	for range api.MaxSize - 1 {
		y = f(2, y) // id, so often
	}
	if z, n, e := step.Run(x, y, api.MaxSteps); face(z) != face(s(2)) || n != api.MaxSize-1 || e != api.OK {
		t.Error(n, e)
	}
}

// held is how much memory the heap has.
func held() int {
	var m runtime.MemStats
	runtime.ReadMemStats(&m)
	return int(m.HeapSys - m.HeapReleased)
}

// What a term has lost is not kept: with all that they lose here these would need some hundred megabytes.
func TestRunKeepsLittle(t *testing.T) {
	const eight = "o > o > o > o > o > o > o > "
	x := get(t, "symbol c 0\nfun s : o = f #c #c #c #c #c #c #c #c\nfun f : "+eight+"o > o = f (g $1) $1 $2 $3 $4 $5 $6 $7\nfun g : o > o = f $0 $0 $0 $0 $0 $0 $0 $0\n")
	y := get(t, "symbol c 0\nfun s : o = f i #c #c #c #c #c #c #c\nfun f : (o > o) > "+eight+"o = f (g i) $1 $2 $3 $4 $5 $6 $7\nfun g : (o > o) > o > o = $0 $1\nfun i : o > o = $0\n")
	for _, z := range []api.Scheme{x, y} {
		debug.FreeOSMemory()
		before := held()
		step.Run(z, f(0), api.MaxSteps)
		if grown := held() - before; grown > 50<<20 {
			t.Error(grown)
		}
	}
}

// ErrFuel or ErrLimit: whichever happens first.
func TestRunFirst(t *testing.T) {
	x := get(t, signs+"fun s : o = f #c\nfun f : o > o = f (#a $0 $0)\n") // 2, 4, 8, .. nodes
	for fuel := range 17 {
		runs(t, x, f(0), fuel, ran{heads: append(many(min(fuel, 1), 0), many(fuel-1, 1)...), e: api.ErrFuel})
	}
	for _, fuel := range []int{17, 18, 1000, api.MaxSteps} {
		runs(t, x, f(0), fuel, ran{e: api.ErrLimit})
	}

	// What would be done, or small, after the next steps is too large.
	x = get(t, signs+"fun s : o = #c\nfun f : o > o = #a $0 $0\nfun g : o > o = k (#a $0 $0) #c\nfun k : o > o > o = $1\nfun h : o > o = k s (g $0)\n")
	large := bushy(api.MaxSize / 2)
	runs(t, x, f(1, large), 0, ran{e: api.ErrFuel})
	runs(t, x, f(1, large), 1, ran{e: api.ErrLimit})
	runs(t, x, f(2, large), 1, ran{e: api.ErrLimit})
	runs(t, x, f(2, large), 2, ran{e: api.ErrLimit})
	runs(t, x, f(4, large), 0, ran{e: api.ErrFuel})
	runs(t, x, f(4, large), 1, ran{heads: []int{4}, e: api.ErrFuel})
	runs(t, x, f(4, large), 2, ran{heads: []int{4, 3}, e: api.ErrFuel})
	runs(t, x, f(4, large), 3, ran{e: api.ErrLimit})
	runs(t, x, f(4, large), 100, ran{e: api.ErrLimit})
	small := bushy(api.MaxSize/2 - 2)
	runs(t, x, f(4, small), 4, ran{term: s(2), steps: 4, heads: []int{4, 3, 2, 3}})
	runs(t, x, f(4, small), 3, ran{heads: []int{4, 3, 2}, e: api.ErrFuel})
	runs(t, x, f(1, small), 1, ran{term: s(0, small, small), steps: 1, heads: []int{1}})
}

// P5.3, P5.5: Run is Step, repeated; more fuel changes nothing; after k steps there are n - k left.
func TestRunRandom(t *testing.T) {
	r := rand.New(rand.NewSource(55))
	met := map[api.Errno]int{}
	most := 0
	for range 1500 {
		x, w := random(r)
		y := w.closed(4)
		for _, fuel := range []int{0, 1, 2, 3, 10, 60} {
			runs(t, x, y, fuel, reduced(x, y, fuel))
		}
		z, n, e := step.Run(x, y, 60)
		met[e]++
		if e != api.OK {
			continue
		}
		most = max(most, n)
		l, _ := step.Heads(x, y, 60)
		runs(t, x, y, api.MaxSteps, ran{term: z, steps: n, heads: l})
		runs(t, x, y, n, ran{term: z, steps: n, heads: l})
		if n > 0 {
			runs(t, x, y, n-1, ran{heads: l[:n-1], e: api.ErrFuel})
		}
		for k := range n {
			next, is, e := step.Step(x, y)
			if !is || e != api.OK || step.Check(x, next) != api.OK {
				t.Fatal(face(y), is, e)
			}
			y = next
			runs(t, x, y, 60, ran{term: z, steps: n - k - 1, heads: l[k+1:]})
		}
		still(t, x, y)
		if !term.Same(y, z) {
			t.Error(face(y), face(z))
		}
	}
	if met[api.OK] < 800 || met[api.ErrFuel] < 200 || met[api.ErrLimit] < 20 || most < 15 {
		t.Error(met, most)
	}
}
