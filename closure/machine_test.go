package closure_test

import (
	"math"
	"testing"

	"virgation/api"
	"virgation/closure"
)

// numbers are all that no kid and no fuel has.
func numbers() []int {
	return []int{-1, -2, math.MinInt, -1 << 32, 1 << 32, 1<<32 + 1, math.MaxInt}
}

// P8.1: New.
func TestNew(t *testing.T) {
	for _, text := range []string{
		sums, "fun s : o = s\n", "fun s : o = t\nfun t : o = s\n", "symbol c 0\nfun s : o = #c\n",
		signs + "fun s : o = #b s\nfun idle : (o > o) > o > o = $0 (idle $0 $1)\n", powers("p19 #c"),
	} {
		stands(t, root(t, get(t, text)))
	}
	full := api.Scheme{Syms: numbered(24, 4), Funs: loops(64)}
	goes(t, root(t, full), 9, 0, 0, api.ErrFuel)
	for name, x := range broken() {
		if m, e := closure.New(x); m != nil || e != api.ErrScheme {
			t.Errorf("%s: %v %d", name, m, e)
		}
	}
}

// P8.2: the document's example, and others.
func TestGo(t *testing.T) {
	m := at(t, sums)
	goes(t, m, 2, 0, 2, api.OK)
	moves(t, m, 1, api.OK)
	goes(t, m, 1, 0, 1, api.OK)
	moves(t, m, 0, api.OK)
	goes(t, m, 0, 1, 0, api.OK)
	moves(t, m, 0, api.OK)
	goes(t, m, 0, 2, 0, api.OK)

	goes(t, at(t, "symbol x 0\nsymbol c 0\nfun s : o = #c\n"), 1, 1, 1, api.OK)
	goes(t, at(t, powers("p3 #c")), 16, 2, 16, api.OK)
	goes(t, at(t, powers("p19 (#b #c)")), api.MaxSteps, 1, api.MaxSteps, api.OK)
	goes(t, at(t, powers("p19 s")), api.MaxSteps, 0, 0, api.ErrFuel)

	// Functions of higher orders: arguments of variables come behind those of their values.
	orders := signs + `fun s : o = twice (twice add) zero
fun zero : o = #c
fun add : o > o = if (#a #c) k $0
fun twice : (o > o) > o > o = $0 ($0 $1)
fun if : (o > o) > (o > o > o) > o > o = $1 (#b $2) ($0 $2)
fun k : o > o > o = $0
`
	m = at(t, orders)
	for _, n := range []int{6, 3, 4, 3} { // b(b(b(b(c))))
		goes(t, m, 9, 1, n, api.OK)
		moves(t, m, 0, api.OK)
	}
	goes(t, m, 9, 2, 1, api.OK)

	turn := "symbol q 4\nsymbol w 0\nsymbol x 0\nsymbol y 0\nsymbol z 0\n" + `fun s : o = f (g #w #x) #y #z
fun f : (o > o > o) > o > o > o = h ($0 $1) $2
fun g : o > o > o > o > o = #q $0 $1 $2 $3
fun h : (o > o) > o > o = $0 $1
`
	for i := range 4 {
		m = at(t, turn, i)
		goes(t, m, 0, i+1, 0, api.OK)
	}
	goes(t, at(t, turn), 4, 0, 4, api.OK)
	goes(t, at(t, turn), 3, 0, 0, api.ErrFuel)

	// Eight arguments, one by one, and a parameter that becomes the body.
	last := "symbol b 1\nsymbol c 0\nfun s : o = k (g (h #c (#b #c) #c #c)) #c\nfun k : (o > o) > o > o = $0 $1\nfun g : (o > o > o > o > o) > o > o = $0 $1 $1 $1 (#b $1)\nfun h : " +
		eight + " = k0 $7\nfun k0 : o > o = $0\n"
	goes(t, at(t, last), 5, 0, 5, api.OK)
}

// With too little fuel a machine stays where it is then, and goes on from there.
func TestGoFuel(t *testing.T) {
	text := powers("#a (p4 #c) (p5 (#b (p0 #c)))") // 31, 63 and 1 steps
	for _, c := range []struct{ kid, sym, steps int }{{0, 2, 31}, {1, 1, 63}} {
		for fuel := range c.steps {
			m := at(t, text, c.kid)
			goes(t, m, fuel, 0, 0, api.ErrFuel)
			goes(t, m, 0, 0, 0, api.ErrFuel)
			stands(t, m, c.kid)
			goes(t, m, c.steps-fuel-1, 0, 0, api.ErrFuel)
			goes(t, m, 0, 0, 0, api.ErrFuel)
			goes(t, m, 1, c.sym, 1, api.OK)
			goes(t, m, 0, c.sym, 0, api.OK)

			m = at(t, text, c.kid)
			goes(t, m, fuel, 0, 0, api.ErrFuel)
			goes(t, m, api.MaxSteps, c.sym, c.steps-fuel, api.OK)
			stands(t, m, c.kid)
		}
		for _, fuel := range []int{c.steps, c.steps + 1, api.MaxSteps} {
			goes(t, at(t, text, c.kid), fuel, c.sym, c.steps, api.OK)
		}
	}
	m := at(t, text, 1, 0)
	goes(t, m, 0, 0, 0, api.ErrFuel)
	goes(t, m, 1, 2, 1, api.OK)

	for _, text := range []string{
		"fun s : o = s\n", "fun s : o = t (u s)\nfun t : o > o = s\nfun u : o > o = $0\n", signs + "fun s : o = f s #c\nfun f : o > o > o = $0\n",
	} {
		m := at(t, text)
		for _, fuel := range []int{0, 1, 7, api.MaxSteps, 2, api.MaxSteps} {
			goes(t, m, fuel, 0, 0, api.ErrFuel)
			moves(t, m, 0, api.ErrOpen)
			stands(t, m)
		}
	}
}

// The fuel has limits, also where the symbol is known; a call with another fuel does nothing.
func TestGoArguments(t *testing.T) {
	m := at(t, sums)
	wrong := append(numbers(), api.MaxSteps+1, api.MaxSteps+2)
	for range 3 {
		for _, fuel := range wrong {
			goes(t, m, fuel, 0, 0, api.ErrArg)
		}
		moves(t, m, 1, api.ErrOpen)
		goes(t, m, 0, 0, 0, api.ErrFuel)
		m.Go(2)
		for _, fuel := range wrong {
			goes(t, m, fuel, 0, 0, api.ErrArg)
		}
		goes(t, m, 0, 0, 0, api.OK)
		moves(t, m, 1, api.OK)
	}
	goes(t, m, 1, 0, 1, api.OK)
	var none *closure.Machine
	for _, fuel := range append(wrong, 0, 1, api.MaxSteps) {
		goes(t, none, fuel, 0, 0, api.ErrNil)
	}
}

// A symbol that is known is returned again, without steps.
func TestGoAgain(t *testing.T) {
	m := at(t, sums, 1, 1)
	goes(t, m, 9, 0, 1, api.OK)
	for _, fuel := range []int{0, 1, 5, api.MaxSteps, 0} {
		goes(t, m, fuel, 0, 0, api.OK)
		moves(t, m, 2, api.ErrNone)
	}
	moves(t, m, 0, api.OK)
	for range 3 {
		goes(t, m, 0, 1, 0, api.OK)
	}
	stands(t, m, 1, 1, 0)
}

// P8.3: Kid.
func TestKid(t *testing.T) {
	m := at(t, signs+"symbol t 3\nfun s : o = #t #c (f #c) s\nfun f : o > o = #b $0\n")
	for _, i := range append(numbers(), 0, 1, 2, 3) { // ErrOpen comes ahead of ErrNone
		moves(t, m, i, api.ErrOpen)
	}
	goes(t, m, 0, 0, 0, api.ErrFuel)
	moves(t, m, 0, api.ErrOpen)
	goes(t, m, -1, 0, 0, api.ErrArg)
	moves(t, m, 0, api.ErrOpen)
	goes(t, m, 1, 3, 1, api.OK)
	for _, i := range append(numbers(), 3, 4) {
		moves(t, m, i, api.ErrNone)
		stands(t, m)
	}
	moves(t, m, 2, api.OK)
	stands(t, m, 2)
	for _, i := range append(numbers(), 0, 3) { // there Go must be called again
		moves(t, m, i, api.ErrOpen)
		stands(t, m, 2)
	}
	goes(t, m, 1, 3, 1, api.OK)
	moves(t, m, 1, api.OK)
	moves(t, m, 0, api.ErrOpen)
	goes(t, m, 1, 1, 1, api.OK)
	moves(t, m, 1, api.ErrNone)
	moves(t, m, 0, api.OK)
	moves(t, m, 0, api.ErrOpen) // though no step is needed there
	goes(t, m, 0, 2, 0, api.OK)
	for _, i := range append(numbers(), 0, 1) {
		moves(t, m, i, api.ErrNone)
	}
	stands(t, m, 2, 1, 0)
	var none *closure.Machine
	for _, i := range append(numbers(), 0, 1) {
		moves(t, none, i, api.ErrNil)
	}
}

// A path has at most MaxHigh elements; ErrNone comes ahead of ErrLimit, and ErrOpen ahead of both.
func TestKidFar(t *testing.T) {
	m := at(t, "symbol q 4\nfun s : o = #q s s s s\n", many(199, 2)...)
	goes(t, m, 1, 0, 1, api.OK)
	moves(t, m, 3, api.OK)
	path := append(many(199, 2), 3)
	for _, i := range []int{-1, 0, 3, 4} {
		moves(t, m, i, api.ErrOpen)
	}
	goes(t, m, 1, 0, 1, api.OK)
	for range 3 {
		for i := range 4 {
			moves(t, m, i, api.ErrLimit)
			moves(t, m.Fork(), i, api.ErrLimit)
		}
		for _, i := range append(numbers(), 4, 5) {
			moves(t, m, i, api.ErrNone)
		}
		stands(t, m, path...)
		goes(t, m, 0, 0, 0, api.OK)
	}
}

// P8.3: Path returns new memory.
func TestPath(t *testing.T) {
	var none *closure.Machine
	stands(t, none)
	m := at(t, sums)
	stands(t, m)
	goes(t, m, 1, 0, 0, api.ErrFuel)
	stands(t, m)
	goes(t, m, 1, 0, 1, api.OK)
	stands(t, m)
	var path []int
	for _, i := range []int{1, 1, 1, 0, 0, 0} {
		moves(t, m, i, api.OK)
		path = append(path, i)
		stands(t, m, path...)
		if _, _, e := m.Go(9); e != api.OK {
			t.Error(e)
		}
		stands(t, m, path...)
		a, b := m.Path(), m.Path()
		a[0] = 7
		if b[0] == 7 {
			t.Error("shared memory")
		}
		for _, l := range [][]int{a, b} {
			for k := range l[:cap(l)] {
				l[:cap(l)][k] = 9
			}
		}
		stands(t, m, path...)
	}
}

// P8.3: a fork is in the same state, and independent from then on.
func TestFork(t *testing.T) {
	var none *closure.Machine
	if none.Fork() != nil {
		t.Error("a fork of nil")
	}
	m := at(t, sums)
	root := m.Fork()
	moves(t, root, 0, api.ErrOpen) // nothing is known in the fork, too
	goes(t, m, 1, 0, 0, api.ErrFuel)
	half := m.Fork()
	goes(t, m, 1, 0, 1, api.OK)
	known := m.Fork()
	moves(t, m, 1, api.OK)
	goes(t, m, 1, 0, 1, api.OK)
	moves(t, m, 0, api.OK)
	goes(t, m, 1, 1, 0, api.OK)
	moves(t, half, 1, api.ErrOpen)
	moves(t, known, 0, api.OK)
	goes(t, known, 0, 2, 0, api.OK)
	goes(t, root, 1, 0, 0, api.ErrFuel)
	goes(t, half, 1, 0, 1, api.OK)
	goes(t, root, 2, 0, 1, api.OK)
	for _, k := range []*closure.Machine{root, half} {
		stands(t, k)
		moves(t, k, 1, api.OK)
		goes(t, k, 0, 0, 0, api.ErrFuel)
	}
	stands(t, known, 0)
	stands(t, m, 1, 0)
}

// Forks of forks, on all paths of a tree at once.
func TestForks(t *testing.T) {
	todo := []*closure.Machine{at(t, signs+"fun s : o = f #c #c\nfun f : o > o > o = #a (f (#b $0) $1) (#a $1 (f $1 $0))\n")}
	for len(todo) < 2000 {
		m := todo[0]
		todo = todo[1:]
		f, _, e := m.Go(9)
		if e != api.OK {
			t.Fatal(m.Path(), e)
		}
		for i := range 2 - f {
			k := m.Fork()
			moves(t, k, i, api.OK)
			todo = append(todo, k)
		}
	}
	met := map[string]bool{}
	for _, m := range todo {
		key := ""
		for _, i := range m.Path() {
			key += string(rune('0' + i))
		}
		met[key] = true
	}
	if len(met) != len(todo) {
		t.Error(len(met), len(todo))
	}
}
