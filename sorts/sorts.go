// Package sorts is layer 1, sorts of functions: see shared/doc/01-sorts.md.
package sorts

import "virgation/api"

// Check returns ErrSort if s is not a valid sort.
func Check(s api.Sort) api.Errno {
	nodes, depth := Size(s)
	few := func(x api.Sort) bool { return len(x.Args) <= api.MaxArgs }
	if nodes > api.MaxSort || depth > api.MaxDeep || !all(s, few) {
		return api.ErrSort
	}
	return api.OK
}

// Size returns the nodes and the depth of any sort, or MaxSort + 1 and 0 if it has more than MaxSort nodes.
func Size(s api.Sort) (nodes, depth int) {
	// Counting ends early: a sort whose slices share memory may have far more nodes than can be visited.
	within := all(s, func(api.Sort) bool {
		nodes++
		return nodes <= api.MaxSort
	})
	if !within {
		return api.MaxSort + 1, 0
	}
	return nodes, high(s)
}

// Same reports whether two sorts are equal; it is false if one of them has more than MaxSort nodes.
func Same(a, b api.Sort) bool {
	return small(a) && small(b) && equal(a, b)
}

// Order returns the order of s.
func Order(s api.Sort) (int, api.Errno) {
	if e := Check(s); e != api.OK {
		return 0, e
	}
	return order(s), api.OK
}

// Behind returns the sort behind k arguments of s.
func Behind(s api.Sort, k int) (api.Sort, api.Errno) {
	if e := Check(s); e != api.OK {
		return api.Sort{}, e
	}
	if k < 0 || k > len(s.Args) {
		return api.Sort{}, api.ErrArg
	}
	return api.Sort{Args: fresh(s.Args[k:])}, api.OK
}

// all reports whether a property holds of s and of all sorts in it; it visits none behind one of which it does not.
func all(s api.Sort, holds func(api.Sort) bool) bool {
	if !holds(s) {
		return false
	}
	for _, a := range s.Args {
		if !all(a, holds) {
			return false
		}
	}
	return true
}

func small(s api.Sort) bool {
	nodes, _ := Size(s)
	return nodes <= api.MaxSort
}

// high returns the depth of a small sort.
func high(s api.Sort) int {
	below := 0
	for _, a := range s.Args {
		below = max(below, high(a))
	}
	return 1 + below
}

func equal(a, b api.Sort) bool {
	if len(a.Args) != len(b.Args) {
		return false
	}
	for i := range a.Args {
		if !equal(a.Args[i], b.Args[i]) {
			return false
		}
	}
	return true
}

func order(s api.Sort) int {
	most := 0
	for _, a := range s.Args {
		most = max(most, 1+order(a))
	}
	return most
}

// fresh returns the sorts of l in new memory.
func fresh(l []api.Sort) []api.Sort {
	var out []api.Sort
	for _, s := range l {
		out = append(out, api.Sort{Args: fresh(s.Args)})
	}
	return out
}
