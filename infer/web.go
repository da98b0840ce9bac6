package infer

import (
	"slices"

	"virgation/api"
)

// Kinds of nodes.
const (
	open  = iota // not determined
	tree         // o
	arrow        // from a sort to a sort
)

// A node stands for a sort that is being found.
type node struct {
	kind          int
	from, to      int  // the nodes of an arrow
	same          int  // a node that it was found equal to, which stands for both; its own number if there is none
	entered, left bool // by the search for sorts that contain themselves
}

// A web is a list of nodes, which are known by their numbers.
type web struct {
	nodes []node
	clash bool // o was found equal to an arrow
}

// add returns the number of a new node.
func (w *web) add(x node) int {
	x.same = len(w.nodes)
	w.nodes = append(w.nodes, x)
	return x.same
}

// function returns the sort of what takes these arguments and then has the sort to.
func (w *web) function(args []int, to int) int {
	for _, a := range slices.Backward(args) {
		to = w.add(node{kind: arrow, from: a, to: to})
	}
	return to
}

// root returns the node that stands for the node n.
func (w *web) root(n int) int {
	for w.nodes[n].same != n {
		// Ways that have been gone become shorter: so many equations take little longer than few.
		next := w.nodes[n].same
		w.nodes[n].same = w.nodes[next].same
		n = next
	}
	return n
}

// equate makes two sorts equal.
func (w *web) equate(a, b int) {
	a, b = w.root(a), w.root(b)
	if a == b {
		return
	}
	if w.nodes[a].kind == open {
		a, b = b, a
	}
	x, y := w.nodes[a], w.nodes[b]
	// Joined ahead of what is in them, they are not met again, even if they contain themselves: this ends.
	w.nodes[b].same = a
	switch {
	case y.kind == open:
	case x.kind != y.kind:
		w.clash = true
	case x.kind == arrow:
		w.equate(x.from, y.from)
		w.equate(x.to, y.to)
	}
}

// finite reports whether no sort contains itself.
func (w *web) finite() bool {
	for n := range w.nodes {
		if !w.ends(n) {
			return false
		}
	}
	return true
}

// ends reports whether no sort in that of the node n contains itself.
func (w *web) ends(n int) bool {
	x := &w.nodes[w.root(n)]
	if x.kind != arrow || x.left {
		return true
	}
	if x.entered {
		return false
	}
	x.entered = true
	x.left = w.ends(x.from) && w.ends(x.to)
	return x.left
}

// read returns the sort of the node n, which must be finite; what is not determined is o.
func (w *web) read(n int) api.Sort {
	room := api.MaxSort
	return w.part(n, &room)
}

// part reads a sort in one that has room for so many nodes. It stops behind the first node for which there is no room,
// which tells enough: with that node the sort is too large to be valid.
func (w *web) part(n int, room *int) api.Sort {
	*room--
	var s api.Sort
	for x := w.nodes[w.root(n)]; x.kind == arrow && *room >= 0; x = w.nodes[w.root(x.to)] {
		s.Args = append(s.Args, w.part(x.from, room))
	}
	return s
}
