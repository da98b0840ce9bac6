package step_test

import (
	"math/rand"
	"strconv"
	"strings"
	"testing"

	"virgation/api"
	"virgation/step"
	"virgation/term"
)

// moved checks that one step leads from a term to another one, both written as in layer 3.
func moved(t *testing.T, x api.Scheme, from, to string) {
	t.Helper()
	y, want := read(t, x, from), read(t, x, to)
	if z, is, e := step.Step(x, y); face(z) != face(want) || !is || e != api.OK {
		t.Errorf("%s: %s %t %d, not %s", from, face(z), is, e, face(want))
	}
}

// still checks that a term is done.
func still(t *testing.T, x api.Scheme, y api.Term) {
	t.Helper()
	if z, is, e := step.Step(x, y); !term.Same(z, y) || is || e != api.OK {
		t.Errorf("%.80s: %.80s %t %d", face(y), face(z), is, e)
	}
	if z, n, e := step.Run(x, y, 0); !term.Same(z, y) || n != 0 || e != api.OK {
		t.Errorf("%.80s: %.80s %d %d", face(y), face(z), n, e)
	}
	for _, fuel := range []int{0, 1, api.MaxSteps} {
		if l, e := step.Heads(x, y, fuel); len(l) != 0 || e != api.OK {
			t.Errorf("%.80s: %v %d", face(y), l, e)
		}
	}
}

// P5.2.
func TestStep(t *testing.T) {
	x := get(t, sums)
	moved(t, x, "s", "f #c")
	moved(t, x, "f #c", "#a #c (f (#b #c))")
	moved(t, x, "f s", "#a s (f (#b s))")
	moved(t, x, "f (f (#b s))", "#a (f (#b s)) (f (#b (f (#b s))))")
	for _, y := range []string{"#c", "#b s", "#a s s", "#a (f #c) (#b (f (f s)))"} {
		still(t, x, read(t, x, y))
	}
	moved(t, get(t, "fun s : o = s\n"), "s", "s")
	moved(t, get(t, "fun s : o = t\nfun t : o = s\n"), "s", "t")
	moved(t, get(t, "fun s : o = t\nfun t : o = s\n"), "t", "s")

	// A parameter with arguments becomes its argument, applied to that one's own arguments and then to those.
	x = get(t, signs+`fun s : o = #c
fun id : o > o = $0
fun k : o > o > o = $0
fun swap : o > o > o = #a $1 $0
fun on : (o > o) > o > o = $0 ($0 $1)
fun both : (o > o > o) > o > o = $0 $1 ($0 #c $1)
fun top : ((o > o) > o) > (o > o) > o = $0 $1
fun pass : (o > o > o) > o > (o > o) > o = $2 (on ($0 $1) (#b $1))
fun deep : ((o > o) > o > o) > o = $0 ($0 ($0 #b)) ($0 (k s) s)
fun none : (o > o) > o > o = s
`)
	moved(t, x, "id s", "s")
	moved(t, x, "id (id #c)", "id #c")
	moved(t, x, "id (k s #c)", "k s #c")
	moved(t, x, "k s (id s)", "s")
	moved(t, x, "swap s #c", "#a #c s")
	moved(t, x, "on #b #c", "#b (#b #c)")
	moved(t, x, "on id s", "id (id s)")
	moved(t, x, "on (k s) #c", "k s (k s #c)")
	moved(t, x, "on (#a (id s)) #c", "#a (id s) (#a (id s) #c)")
	moved(t, x, "on (on (on #b)) s", "on (on #b) (on (on #b) s)")
	moved(t, x, "both #a s", "#a s (#a #c s)")
	moved(t, x, "both k (id #c)", "k (id #c) (k #c (id #c))")
	moved(t, x, "top (pass k s) #b", "pass k s #b")
	moved(t, x, "top (pass #a (id s)) (on (swap s))", "pass #a (id s) (on (swap s))")
	moved(t, x, "pass #a (id s) (swap #c)", "swap #c (on (#a (id s)) (#b (id s)))")
	moved(t, x, "pass swap s (on id)", "on id (on (swap s) (#b s))")
	moved(t, x, "deep on", "on (on (on #b)) (on (k s) s)")
	moved(t, x, "deep none", "none (none (none #b)) (none (k s) s)")
	moved(t, x, "none (on (swap s)) (id s)", "s")
}

// All parameters of the largest sorts are replaced, each by the argument in its place.
func TestStepWide(t *testing.T) {
	x := get(t, signs+"fun s : o = #c\nfun g : o > o > o > o > o > o > o > o > o = #a (#a (#a $7 $6) (#a $5 $4)) (#a (#a $3 $2) (#a $1 $0))\n"+
		"fun k : (o > o > o > o > o > o > o > o > o) > o = $0 s #c s #c s #c s (#b s)\n")
	moved(t, x, "g #c s (#b #c) (#b s) (#b (#b #c)) (#b (#b s)) (#b (#b (#b #c))) (#b (#b (#b s)))",
		"#a (#a (#a (#b (#b (#b s))) (#b (#b (#b #c)))) (#a (#b (#b s)) (#b (#b #c)))) (#a (#a (#b s) (#b #c)) (#a s #c))")
	moved(t, x, "k g", "g s #c s #c s #c s (#b s)")

	// One argument after the other is put behind those that g has already.
	text := signs + "fun s : o = h0 g\nfun g : o > o > o > o > o > o > o > o > o = #a (#a (#a $7 $6) (#a $5 $4)) (#a (#a $3 $2) (#a $1 $0))\n"
	for i := range 7 {
		text += "fun h" + strconv.Itoa(i) + " : (" + strings.Repeat("o > ", 8-i) + "o) > o = h" + strconv.Itoa(i+1) + " ($0 " + bees(i) + ")\n"
	}
	x = get(t, text+"fun h7 : (o > o) > o = $0 "+bees(7)+"\n")
	var kids []api.Term
	for i := range 8 {
		kids = append(kids, chain(i+1))
	}
	y, n, e := step.Run(x, f(0), 20)
	if want := replaced(x.Funs[1].Body, kids); face(y) != face(want) || n != 10 || e != api.OK {
		t.Error(face(y), n, e)
	}
}

// bees is the string of an argument: n times the symbol b, and c.
func bees(n int) string {
	if n == 0 {
		return "#c"
	}
	return "(" + strings.Repeat("#b (", n-1) + "#b #c" + strings.Repeat(")", n)
}

// The term after a step may have MaxSize nodes.
func TestStepLimit(t *testing.T) {
	x := get(t, signs+"fun s : o = #c\nfun f : o > o = #a $0 $0\nfun g : o > o = #a $0 (#b $0)\nfun k : o > o = #c\nfun h : o > o = k (#a $0 $0)\nfun on : (o > o) > o > o = $0 ($0 $1)\n")
	half := api.MaxSize / 2
	for _, c := range []struct {
		t    api.Term
		want int // nodes, or 0
	}{
		{f(1, chain(half-1)), api.MaxSize - 1},
		{f(1, chain(half)), 0},
		{f(1, bushy(half)), 0},
		{f(1, chain(api.MaxSize-1)), 0},
		{f(2, bushy(half-1)), api.MaxSize},
		{f(2, bushy(half)), 0},
		{f(3, bushy(api.MaxSize-1)), 1},
		{f(4, bushy(half-2)), api.MaxSize - 2},
		{f(4, chain(half)), 0}, // though the next step would make it small
		{f(5, s(0, bushy(half-2)), s(2)), api.MaxSize - 1},
		{f(5, s(0, bushy(half-2)), chain(2)), api.MaxSize},
		{f(5, s(0, bushy(half-2)), chain(3)), 0},
		{f(5, s(0, bushy(half-1)), s(2)), 0},
	} {
		y, is, e := step.Step(x, c.t)
		if c.want > 0 && (nodes(y) != c.want || !is || e != api.OK) {
			t.Errorf("%.40s: %d nodes, not %d; %t %d", face(c.t), nodes(y), c.want, is, e)
		}
		if c.want == 0 {
			if !zero(y) || is || e != api.ErrLimit {
				t.Errorf("%.40s: %.40s %t %d", face(c.t), face(y), is, e)
			}
			for _, fuel := range []int{1, 2, api.MaxSteps} {
				fuelless(t, face(c.t)[:9], x, c.t, fuel, api.ErrLimit)
			}
		}
	}
	for _, y := range []api.Term{chain(api.MaxSize), bushy(api.MaxSize), shared(16)} {
		still(t, x, y)
	}
	// A parameter may occur often.
	x.Funs[1].Body = full(8, v(0))
	for n, want := range map[int]int{1: 255, 780: 127 + 128*780, 781: 0, 30000: 0, api.MaxSize - 1: 0} {
		y, is, e := step.Step(x, f(1, bushy(n)))
		if want > 0 && (nodes(y) != want || !is || e != api.OK) || want == 0 && (!zero(y) || is || e != api.ErrLimit) {
			t.Errorf("%d: %d nodes, not %d; %t %d", n, nodes(y), want, is, e)
		}
	}
}

// full has the depth n; each node has two kids, but for those of the last level, which are leaves.
func full(n int, leaf api.Term) api.Term {
	if n == 1 {
		return leaf
	}
	return s(0, full(n-1, leaf), full(n-1, leaf))
}

// P5.2, P5.4 of many terms of many schemes, and steps leave the rest of a term as it is.
func TestStepRandom(t *testing.T) {
	r := rand.New(rand.NewSource(52))
	steps, deepest := 0, 0
	for range 500 {
		x, w := random(r)
		y := w.closed(4)
		for range 12 {
			want, e := stepped(x, y)
			z, is, g := step.Step(x, y)
			if e == api.ErrNone {
				if face(z) != face(y) || is || g != api.OK {
					t.Fatal(face(y), face(z), is, g)
				}
				break
			}
			if e != g || face(z) != face(want) || is != (e == api.OK) {
				t.Fatalf("%.200s: %.200s %t %d, not %.200s %d", face(y), face(z), is, g, face(want), e)
			}
			if e == api.ErrLimit {
				break
			}
			if g := step.Check(x, z); g != api.OK {
				t.Fatalf("%.200s: %.200s %d", face(y), face(z), g)
			}
			y = z
			steps++
		}
		_, depth := term.Size(y)
		deepest = max(deepest, depth)
	}
	if steps < 1000 || deepest < 10 {
		t.Error(steps, deepest)
	}
}
