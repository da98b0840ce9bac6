package sorts_test

import (
	"math"
	"strings"
	"testing"

	"virgation/api"
	"virgation/sorts"
)

// The signatures that the chapter lists.
var (
	_ func(api.Sort) api.Errno                  = sorts.Check
	_ func(api.Sort) (int, int)                 = sorts.Size
	_ func(api.Sort, api.Sort) bool             = sorts.Same
	_ func(api.Sort) (int, api.Errno)           = sorts.Order
	_ func(api.Sort, int) (api.Sort, api.Errno) = sorts.Behind
	_ func(api.Sort) (string, api.Errno)        = sorts.Put
	_ func(string) (api.Sort, api.Errno)        = sorts.Get
)

// of is the sort of a function with these arguments.
func of(args ...api.Sort) api.Sort { return api.Sort{Args: args} }

// many is a list of n times s.
func many(n int, s api.Sort) []api.Sort {
	var out []api.Sort
	for range n {
		out = append(out, s)
	}
	return out
}

// chain has n nodes and the depth n.
func chain(n int) api.Sort {
	s := of()
	for range n - 1 {
		s = of(s)
	}
	return s
}

// bushy has n nodes, at most MaxArgs arguments anywhere, and few levels.
func bushy(n int) api.Sort {
	s := of()
	n--
	for left := api.MaxArgs; n > 0; left-- {
		part := (n + left - 1) / left
		s.Args = append(s.Args, bushy(part))
		n -= part
	}
	return s
}

// shared has 2^n - 1 nodes, in n slices.
func shared(n int) api.Sort {
	s := of()
	for range n - 1 {
		s = of(s, s)
	}
	return s
}

// withNodes lists all sorts with n nodes.
func withNodes(n int) []api.Sort {
	var out []api.Sort
	for _, l := range lists(n - 1) {
		out = append(out, of(l...))
	}
	return out
}

// lists lists all lists of sorts with n nodes together.
func lists(n int) [][]api.Sort {
	if n == 0 {
		return [][]api.Sort{nil}
	}
	var out [][]api.Sort
	for k := 1; k <= n; k++ {
		rests := lists(n - k)
		for _, first := range withNodes(k) {
			for _, rest := range rests {
				out = append(out, append([]api.Sort{first}, rest...))
			}
		}
	}
	return out
}

// upTo lists all sorts with at most n nodes.
func upTo(n int) []api.Sort {
	var out []api.Sort
	for k := 1; k <= n; k++ {
		out = append(out, withNodes(k)...)
	}
	return out
}

// face is another string of any sort, by which the tests tell sorts from one another.
func face(s api.Sort) string {
	var out strings.Builder
	out.WriteString("<")
	for _, a := range s.Args {
		out.WriteString(face(a))
	}
	out.WriteString(">")
	return out.String()
}

// broken lists sorts that are not valid, each because of one limit.
func broken() map[string]api.Sort {
	return map[string]api.Sort{
		"61 nodes":             bushy(api.MaxSort + 1),
		"depth 31":             chain(api.MaxDeep + 1),
		"9 arguments":          of(many(api.MaxArgs+1, of())...),
		"9 arguments inside":   of(of(), of(of(many(api.MaxArgs+1, of())...))),
		"9 arguments at last":  of(of(), of(of()), of(many(api.MaxArgs+1, of())...)),
		"many arguments":       of(many(100000, of())...),
		"2^62 nodes":           shared(62),
		"65536 levels":         chain(1 << 16),
		"both, deep and large": of(chain(40), shared(40)),
	}
}

func TestCheck(t *testing.T) {
	good := map[string]api.Sort{
		"o":            of(),
		"o, empty":     {Args: []api.Sort{}},
		"60 nodes":     bushy(api.MaxSort),
		"depth 30":     chain(api.MaxDeep),
		"both":         of(chain(api.MaxDeep-1), chain(api.MaxDeep-1), of()),
		"8 arguments":  of(many(api.MaxArgs, of())...),
		"8 inside":     of(of(), of(of(many(api.MaxArgs, of())...))),
		"shared parts": shared(5),
	}
	for name, s := range good {
		if e := sorts.Check(s); e != api.OK {
			t.Errorf("%s: %d", name, e)
		}
	}
	for name, s := range broken() {
		if e := sorts.Check(s); e != api.ErrSort {
			t.Errorf("%s: %d", name, e)
		}
	}
}

func TestSize(t *testing.T) {
	for _, c := range []struct {
		s            api.Sort
		nodes, depth int
	}{
		{of(), 1, 1},
		{api.Sort{Args: []api.Sort{}}, 1, 1},
		{of(of()), 2, 2},
		{of(of(of()), of()), 4, 3},
		{of(of(), of(of()), of()), 5, 3},
		{chain(api.MaxDeep), 30, 30},
		{chain(api.MaxDeep + 1), 31, 31},
		{chain(api.MaxSort), 60, 60},
		{chain(api.MaxSort + 1), 61, 0},
		{of(many(api.MaxArgs+1, of())...), 10, 2},
		{of(many(api.MaxSort-1, of())...), 60, 2},
		{of(many(api.MaxSort, of())...), 61, 0},
		{shared(5), 31, 5},
		{shared(6), 61, 0},
		{shared(62), 61, 0},
		{chain(1 << 16), 61, 0},
	} {
		if n, d := sorts.Size(c.s); n != c.nodes || d != c.depth {
			t.Errorf("%d %d, not %d %d", n, d, c.nodes, c.depth)
		}
	}
	if n, _ := sorts.Size(bushy(api.MaxSort)); n != api.MaxSort {
		t.Error(n)
	}
}

func TestSame(t *testing.T) {
	all := upTo(6)
	for i, a := range all {
		for j, b := range all {
			if sorts.Same(a, b) != (i == j) {
				t.Errorf("%s %s: %v", face(a), face(b), i != j)
			}
		}
	}
	empty := api.Sort{Args: []api.Sort{{Args: []api.Sort{}}}}
	if !sorts.Same(empty, of(of())) || !sorts.Same(of(of()), empty) {
		t.Error("nil and empty slices differ")
	}
	// Any sorts, also such that are not valid, as long as they are small.
	for _, s := range []api.Sort{of(many(9, of())...), chain(40), chain(api.MaxSort), bushy(api.MaxSort)} {
		if !sorts.Same(s, s) || sorts.Same(s, of()) || sorts.Same(of(), s) {
			t.Error(face(s))
		}
	}
	for _, s := range []api.Sort{bushy(61), chain(61), shared(62), chain(1 << 16)} {
		if sorts.Same(s, s) || sorts.Same(s, of()) || sorts.Same(of(), s) {
			t.Error("a sort that is too large is the same as another one")
		}
	}
}

func TestOrder(t *testing.T) {
	for _, c := range []struct {
		s     api.Sort
		order int
	}{
		{of(), 0},
		{of(of()), 1},
		{of(of(), of(), of()), 1},
		{of(of(of()), of()), 2},
		{of(of(), of(of())), 2},
		{of(of(of()), of(of(of())), of(of())), 3},
		{of(of(of(), of(of())), of()), 3},
		{chain(api.MaxDeep), api.MaxDeep - 1},
	} {
		if n, e := sorts.Order(c.s); n != c.order || e != api.OK {
			t.Errorf("%s: %d %d", face(c.s), n, e)
		}
	}
	for name, s := range broken() {
		if n, e := sorts.Order(s); n != 0 || e != api.ErrSort {
			t.Errorf("%s: %d %d", name, n, e)
		}
	}
}

func TestBehind(t *testing.T) {
	s := of(of(of()), of(), of(of(), of()))
	for k, want := range []api.Sort{s, of(of(), of(of(), of())), of(of(of(), of())), of()} {
		if x, e := sorts.Behind(s, k); face(x) != face(want) || e != api.OK {
			t.Errorf("%d: %s %d", k, face(x), e)
		}
	}
	for _, k := range []int{-1, 4, 5, math.MinInt, math.MaxInt, math.MaxInt32 + 1, 1 << 32, -1 << 32} {
		if x, e := sorts.Behind(s, k); len(x.Args) != 0 || e != api.ErrArg {
			t.Errorf("%d: %s %d", k, face(x), e)
		}
	}
	if x, e := sorts.Behind(of(), 0); len(x.Args) != 0 || e != api.OK {
		t.Error(face(x), e)
	}
	if _, e := sorts.Behind(of(), 1); e != api.ErrArg {
		t.Error(e)
	}
	for name, s := range broken() {
		for _, k := range []int{-1, 0, 1, math.MaxInt} { // ErrSort comes ahead of ErrArg
			if x, e := sorts.Behind(s, k); len(x.Args) != 0 || e != api.ErrSort {
				t.Errorf("%s, %d: %d", name, k, e)
			}
		}
	}
}

func TestPut(t *testing.T) {
	for _, c := range []struct {
		s    api.Sort
		want string
	}{
		{of(), "o"},
		{of(of()), "o > o"},
		{of(of(), of()), "o > o > o"},
		{of(of(of()), of()), "(o > o) > o > o"},
		{of(of(), of(of())), "o > (o > o) > o"},
		{of(of(of(of()), of()), of(of())), "((o > o) > o > o) > (o > o) > o"},
		{of(many(8, of())...), "o > o > o > o > o > o > o > o > o"},
	} {
		if x, e := sorts.Put(c.s); x != c.want || e != api.OK {
			t.Errorf("%q %d, not %q", x, e, c.want)
		}
	}
	for name, s := range broken() {
		if x, e := sorts.Put(s); x != "" || e != api.ErrSort {
			t.Errorf("%s: %q %d", name, x, e)
		}
	}
}

// The document's example.
func TestExample(t *testing.T) {
	s := of(of(of()), of())
	text, _ := sorts.Put(s)
	order, _ := sorts.Order(s)
	nodes, depth := sorts.Size(s)
	x, _ := sorts.Behind(s, 1)
	behind, _ := sorts.Put(x)
	if text != "(o > o) > o > o" || order != 2 || nodes != 4 || depth != 3 || behind != "o > o" {
		t.Error(text, order, nodes, depth, behind)
	}
}
