package sorts_test

import (
	"reflect"
	"testing"

	"virgation/api"
	"virgation/sorts"
)

// valid lists all sorts with few nodes, and some with as many as there may be.
func valid() []api.Sort {
	return append(upTo(9), bushy(api.MaxSort), bushy(api.MaxSort-1), chain(api.MaxDeep), shared(5),
		of(chain(api.MaxDeep-1), chain(api.MaxDeep-1), of()), of(many(8, of(many(6, of())...))...))
}

// P1.4, and P8 for sorts.
func TestRoundTrips(t *testing.T) {
	for _, s := range valid() {
		text, e := sorts.Put(s)
		if e != api.OK || text != spelt(s) {
			t.Fatal(text, e)
		}
		x, e := sorts.Get(text)
		if e != api.OK || face(x) != face(s) || !sorts.Same(x, s) {
			t.Fatal(text, face(x), e)
		}
		if again, e := sorts.Put(x); again != text || e != api.OK {
			t.Fatal(text, again, e)
		}
	}
}

// P1.5.
func TestOrders(t *testing.T) {
	for _, s := range valid() {
		order, e := sorts.Order(s)
		if _, depth := sorts.Size(s); e != api.OK || depth < order+1 {
			t.Fatal(face(s), order, depth, e)
		}
		for k := range len(s.Args) + 1 {
			x, e := sorts.Behind(s, k)
			less, f := sorts.Order(x)
			if e != api.OK || f != api.OK || less > order {
				t.Fatal(face(s), k, less, e, f)
			}
			for m := range len(x.Args) + 1 {
				y, e := sorts.Behind(x, m)
				z, f := sorts.Behind(s, k+m)
				if e != api.OK || f != api.OK || !sorts.Same(y, z) {
					t.Fatal(face(s), k, m, e, f)
				}
			}
			if _, e := sorts.Behind(x, len(x.Args)+1); e != api.ErrArg {
				t.Fatal(face(s), k, e)
			}
		}
	}
}

// spoil changes a sort and all sorts in it, and the memory behind its slices.
func spoil(s api.Sort) {
	for i := range s.Args {
		spoil(s.Args[i])
		s.Args[i] = of(of(), of())
	}
	for rest := s.Args[len(s.Args):cap(s.Args)]; len(rest) > 0; rest = rest[1:] {
		rest[0] = chain(3)
	}
}

// Results are new memory, no two slices of which are shared, and arguments stay as they are (rule 3).
func TestMemory(t *testing.T) {
	inner := of(of(), of(of()))
	s := of(inner, inner, of(), inner)
	before := face(s)
	x, _ := sorts.Behind(s, 0)
	y, _ := sorts.Behind(s, 0)
	spoil(x)
	if face(s) != before || face(y) != before {
		t.Error("a result shares memory with an argument, or another result")
	}
	z, _ := sorts.Behind(s, 0)
	spoil(z.Args[0])
	if face(z.Args[1]) != face(inner) || face(z.Args[3]) != face(inner) {
		t.Error("two parts of a result share memory")
	}
	text := spelt(s)
	one, _ := sorts.Get(text)
	two, _ := sorts.Get(text)
	spoil(one)
	if face(two) != before {
		t.Error("two results share memory")
	}
}

// No function changes its arguments, or returns another result when it is called again (rules 3 and 7).
func TestTwice(t *testing.T) {
	for _, s := range append(valid()[:100], broken()["9 arguments"], chain(31), bushy(61)) {
		before := face(s)
		var results [2][]any
		for i := range results {
			e := sorts.Check(s)
			nodes, depth := sorts.Size(s)
			order, f := sorts.Order(s)
			behind, g := sorts.Behind(s, 1)
			text, h := sorts.Put(s)
			results[i] = []any{e, nodes, depth, sorts.Same(s, s), order, f, behind, g, text, h}
		}
		if !reflect.DeepEqual(results[0], results[1]) || face(s) != before {
			t.Error(before)
		}
	}
}
