package infer_test

import (
	"slices"
	"strconv"
	"strings"
	"testing"

	"virgation/api"
	"virgation/infer"
)

// The signatures that the chapter lists.
var (
	_ func([]api.Symbol, []infer.Loose) api.Errno               = infer.Check
	_ func([]api.Symbol, []infer.Loose) ([]api.Sort, api.Errno) = infer.Sorts
	_ func([]api.Symbol, []infer.Loose) (api.Scheme, api.Errno) = infer.Scheme
	_ struct {
		Name   string
		Params int
		Body   api.Term
	} = infer.Loose{}
)

func v(n int, args ...api.Term) api.Term { return api.Term{Kind: api.KVar, N: n, Args: args} }
func f(n int, args ...api.Term) api.Term { return api.Term{Kind: api.KFun, N: n, Args: args} }
func s(n int, args ...api.Term) api.Term { return api.Term{Kind: api.KSym, N: n, Args: args} }

// of is the sort of a function with these arguments.
func of(args ...api.Sort) api.Sort { return api.Sort{Args: args} }

// many is a list of n times x.
func many[T any](n int, x T) []T {
	var out []T
	for range n {
		out = append(out, x)
	}
	return out
}

// syms has a symbol of each rank.
func syms() []api.Symbol {
	return []api.Symbol{{Name: "a", Rank: 2}, {Name: "b", Rank: 1}, {Name: "c"}, {Name: "t", Rank: 3}, {Name: "q", Rank: 4}}
}

// loose reads functions over syms, each from a line: its name, its parameters, =, its body. A word of a body is one of the
// parameters, of the functions or of the symbols, in this order.
func loose(lines ...string) []infer.Loose {
	var out []infer.Loose
	var words [][]string
	for _, line := range lines {
		line = strings.NewReplacer("(", " ( ", ")", " ) ").Replace(line)
		words = append(words, strings.Fields(line))
		out = append(out, infer.Loose{Name: words[len(words)-1][0]})
	}
	for i, l := range words {
		at := slices.Index(l, "=")
		out[i].Params = at - 1
		r := &reader{params: l[1:at], funs: out, words: l[at+1:]}
		out[i].Body = r.term()
		if len(r.words) > 0 {
			panic(lines[i])
		}
	}
	return out
}

type reader struct {
	params, words []string
	funs          []infer.Loose
}

func (r *reader) next() string {
	w := r.words[0]
	r.words = r.words[1:]
	return w
}

func (r *reader) term() api.Term {
	x := r.head(r.next())
	for len(r.words) > 0 && r.words[0] != ")" {
		if w := r.next(); w != "(" {
			x.Args = append(x.Args, r.head(w))
			continue
		}
		x.Args = append(x.Args, r.term())
		r.next()
	}
	return x
}

func (r *reader) head(w string) api.Term {
	if n := slices.Index(r.params, w); n >= 0 {
		return v(n)
	}
	if n := slices.IndexFunc(r.funs, func(x infer.Loose) bool { return x.Name == w }); n >= 0 {
		return f(n)
	}
	n := slices.IndexFunc(syms(), func(x api.Symbol) bool { return x.Name == w })
	if n < 0 {
		panic(w)
	}
	return s(n)
}

// chain has n nodes and the depth n.
func chain(n int) api.Term {
	t := s(2)
	for range n - 1 {
		t = s(1, t)
	}
	return t
}

// bushy has n nodes and few levels.
func bushy(n int) api.Term {
	bySize := []int{2, 1, 0, 3, 4} // the symbol of a rank
	var kids []api.Term
	left := n - 1
	for k := min(left, 4); k > 0; k-- {
		part := (left + k - 1) / k
		kids = append(kids, bushy(part))
		left -= part
	}
	return s(bySize[len(kids)], kids...)
}

// shared has 2^n - 1 nodes, in n slices.
func shared(n int) api.Term {
	t := s(2)
	for range n - 1 {
		t = s(0, t, t)
	}
	return t
}

// idle lists n functions without parameters, each with c as its body.
func idle(n int) []infer.Loose {
	var out []infer.Loose
	for i := range n {
		out = append(out, infer.Loose{Name: "f" + strconv.Itoa(i), Body: s(2)})
	}
	return out
}

// numbered is a list of n symbols of a rank.
func numbered(n, rank int) []api.Symbol {
	var out []api.Symbol
	for i := range n {
		out = append(out, api.Symbol{Name: "x" + strconv.Itoa(i), Rank: rank})
	}
	return out
}

// sortFace is the string of any sort, as layer 1 describes it.
func sortFace(x api.Sort) string {
	out := ""
	for _, a := range x.Args {
		y := sortFace(a)
		if y != "o" {
			y = "(" + y + ")"
		}
		out += y + " > "
	}
	return out + "o"
}

// sortFaces is a string of a list of sorts.
func sortFaces(l []api.Sort) string {
	var out []string
	for _, x := range l {
		out = append(out, sortFace(x))
	}
	return strings.Join(out, ", ")
}

// termFace is a string of any term.
func termFace(t api.Term) string {
	out := string("$&#"[t.Kind]) + strconv.Itoa(t.N)
	for _, a := range t.Args {
		out += " (" + termFace(a) + ")"
	}
	return out
}

// face is a string of loose functions.
func face(l []infer.Loose) string {
	var out []string
	for _, x := range l {
		out = append(out, x.Name+"/"+strconv.Itoa(x.Params)+" = "+termFace(x.Body))
	}
	return strings.Join(out, "; ")
}

// fails checks that Sorts and Scheme return this error, and nothing with it.
func fails(t *testing.T, name string, y []api.Symbol, l []infer.Loose, want api.Errno) {
	t.Helper()
	if x, e := infer.Sorts(y, l); len(x) != 0 || e != want {
		t.Errorf("%s: Sorts %.200s %d, not %d", name, sortFaces(x), e, want)
	}
	if x, e := infer.Scheme(y, l); len(x.Syms) != 0 || len(x.Funs) != 0 || e != want {
		t.Errorf("%s: Scheme %d, not %d", name, e, want)
	}
}

// sortOf is the sort of t, where functions and parameters have some sorts, as the document describes it.
func sortOf(funs, params []api.Sort, t api.Term) (api.Sort, bool) {
	var h api.Sort
	switch t.Kind {
	case api.KVar:
		h = params[t.N]
	case api.KFun:
		h = funs[t.N]
	case api.KSym:
		h = of(many(syms()[t.N].Rank, of())...)
	}
	if len(h.Args) < len(t.Args) {
		return h, false
	}
	for i, a := range t.Args {
		if x, ok := sortOf(funs, params, a); !ok || sortFace(x) != sortFace(h.Args[i]) {
			return h, false
		}
	}
	return of(h.Args[len(t.Args):]...), true
}

// assigns reports whether l is an assignment of functions over syms.
func assigns(funs []infer.Loose, l []api.Sort) bool {
	if len(l) != len(funs) {
		return false
	}
	for i, x := range funs {
		if len(l[i].Args) != x.Params {
			return false
		}
		if y, ok := sortOf(l, l[i].Args, x.Body); !ok || len(y.Args) > 0 {
			return false
		}
	}
	return true
}

// below reports whether a results from b by replacing some sorts in it by o.
func below(a, b api.Sort) bool {
	if len(a.Args) > len(b.Args) {
		return false
	}
	for i, x := range a.Args {
		if !below(x, b.Args[i]) {
			return false
		}
	}
	return true
}

// nodes counts the nodes of a sort.
func nodes(x api.Sort) int {
	n := 1
	for _, a := range x.Args {
		n += nodes(a)
	}
	return n
}

// order is the order of a sort.
func order(x api.Sort) int {
	n := 0
	for _, a := range x.Args {
		n = max(n, 1+order(a))
	}
	return n
}

// termsUpTo lists all terms with at most n nodes over some heads.
func termsUpTo(n int, heads []api.Term) []api.Term {
	var out []api.Term
	for k := 1; k <= n; k++ {
		out = append(out, termsWith(k, heads)...)
	}
	return out
}

func termsWith(n int, heads []api.Term) []api.Term {
	var out []api.Term
	for _, l := range lists(n-1, func(k int) []api.Term { return termsWith(k, heads) }) {
		for _, h := range heads {
			out = append(out, api.Term{Kind: h.Kind, N: h.N, Args: l})
		}
	}
	return out
}

// sortsUpTo lists all sorts with at most n nodes.
func sortsUpTo(n int) []api.Sort {
	var out []api.Sort
	for k := 1; k <= n; k++ {
		out = append(out, sortsWith(k)...)
	}
	return out
}

func sortsWith(n int) []api.Sort {
	var out []api.Sort
	for _, l := range lists(n-1, sortsWith) {
		out = append(out, of(l...))
	}
	return out
}

// lists lists all lists with n nodes together, where with lists all that have so many.
func lists[T any](n int, with func(int) []T) [][]T {
	if n == 0 {
		return [][]T{nil}
	}
	var out [][]T
	for k := 1; k <= n; k++ {
		rests := lists(n-k, with)
		for _, first := range with(k) {
			for _, rest := range rests {
				out = append(out, append([]T{first}, rest...))
			}
		}
	}
	return out
}
