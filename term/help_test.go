package term_test

import (
	"strconv"
	"strings"

	"virgation/api"
	"virgation/term"
)

// The signatures that the chapter lists.
var (
	_ func(term.Place) api.Errno                       = term.Check
	_ func(api.Term) (int, int)                        = term.Size
	_ func(api.Term, api.Term) bool                    = term.Same
	_ func(term.Place, api.Term) (api.Sort, api.Errno) = term.Sort
	_ func(api.Term) ([]int, api.Errno)                = term.Free
	_ func(api.Term, []api.Term) (api.Term, api.Errno) = term.Subst
	_ func(api.Term, []api.Term) (api.Term, api.Errno) = term.Apply
	_ struct {
		Syms         []api.Symbol
		Funs, Params []api.Sort
	} = term.Place{}
)

func v(n int, args ...api.Term) api.Term { return api.Term{Kind: api.KVar, N: n, Args: args} }
func f(n int, args ...api.Term) api.Term { return api.Term{Kind: api.KFun, N: n, Args: args} }
func s(n int, args ...api.Term) api.Term { return api.Term{Kind: api.KSym, N: n, Args: args} }

// of is the sort of a function with these arguments.
func of(args ...api.Sort) api.Sort { return api.Sort{Args: args} }

// many is a list of n times x.
func many[T any](n int, x T) []T {
	var out []T
	for range n {
		out = append(out, x)
	}
	return out
}

// wide has n nodes and the depth 2 (n > 1).
func wide(n int) api.Term { return s(0, many(n-1, s(1))...) }

// chain has n nodes, each with the one below it as its only argument.
func chain(n int) api.Term {
	t := s(1)
	for range n - 1 {
		t = s(0, t)
	}
	return t
}

// shared has 2^n - 1 nodes, in n slices.
func shared(n int) api.Term {
	t := s(1)
	for range n - 1 {
		t = s(0, t, t)
	}
	return t
}

// tooLarge lists terms with more than MaxSize nodes.
func tooLarge() map[string]api.Term {
	return map[string]api.Term{
		"wide":       wide(api.MaxSize + 1),
		"wider":      wide(1 << 20),
		"deep":       chain(api.MaxSize + 1),
		"deeper":     chain(1 << 19),
		"2^62 nodes": shared(62),
		"2^17 nodes": shared(17),
		"inside":     v(-1, v(-2, wide(api.MaxSize-1))),
		"at last":    f(-1, wide(api.MaxSize/2), v(-1), wide(api.MaxSize/2)),
	}
}

// face is a string of any term, by which the tests tell terms from one another.
func face(t api.Term) string {
	var out strings.Builder
	write(&out, t)
	return out.String()
}

func write(out *strings.Builder, t api.Term) {
	out.WriteString(strconv.Itoa(t.Kind) + "." + strconv.Itoa(t.N))
	for _, a := range t.Args {
		out.WriteString("(")
		write(out, a)
		out.WriteString(")")
	}
}

// faces is a string of a list of terms.
func faces(l []api.Term) string {
	out := ""
	for _, t := range l {
		out += face(t) + ";"
	}
	return out
}

// sortFace is a string of any sort.
func sortFace(x api.Sort) string {
	out := "<"
	for _, a := range x.Args {
		out += sortFace(a)
	}
	return out + ">"
}

// A head is one of those of which terms are enumerated.
type head struct{ kind, n int }

// withNodes lists all terms with n nodes over some heads.
func withNodes(n int, heads []head) []api.Term {
	var out []api.Term
	for _, l := range lists(n-1, heads) {
		for _, h := range heads {
			out = append(out, api.Term{Kind: h.kind, N: h.n, Args: l})
		}
	}
	return out
}

// lists lists all lists of terms with n nodes together.
func lists(n int, heads []head) [][]api.Term {
	if n == 0 {
		return [][]api.Term{nil}
	}
	var out [][]api.Term
	for k := 1; k <= n; k++ {
		rests := lists(n-k, heads)
		for _, first := range withNodes(k, heads) {
			for _, rest := range rests {
				out = append(out, append([]api.Term{first}, rest...))
			}
		}
	}
	return out
}

// upTo lists all terms with at most n nodes over some heads.
func upTo(n int, heads []head) []api.Term {
	var out []api.Term
	for k := 1; k <= n; k++ {
		out = append(out, withNodes(k, heads)...)
	}
	return out
}

// spoil changes a term and all terms in it, and the memory behind its slices.
func spoil(t api.Term) {
	for i := range t.Args {
		spoil(t.Args[i])
		t.Args[i] = v(77, v(78))
	}
	for rest := t.Args[len(t.Args):cap(t.Args)]; len(rest) > 0; rest = rest[1:] {
		rest[0] = f(79)
	}
}

// replaced is t with args in the place of its variables, as the chapter describes it.
func replaced(t api.Term, args []api.Term) api.Term {
	var l []api.Term
	for _, a := range t.Args {
		l = append(l, replaced(a, args))
	}
	if t.Kind != api.KVar {
		return api.Term{Kind: t.Kind, N: t.N, Args: l}
	}
	a := args[t.N]
	return api.Term{Kind: a.Kind, N: a.N, Args: append(append([]api.Term{}, a.Args...), l...)}
}

// nodes counts the nodes of a small term.
func nodes(t api.Term) int {
	n := 1
	for _, a := range t.Args {
		n += nodes(a)
	}
	return n
}
