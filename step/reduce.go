package step

import (
	"iter"

	"virgation/api"
)

// A reduction is a term that is being reduced, with the functions of its scheme, and fuel.
type reduction struct {
	funs   []api.Fun
	bodies []*shape // of the functions that have been replaced
	now    *part
	fuel   int
}

// begin returns the reduction of t, before its first step.
func begin(s api.Scheme, t api.Term, fuel int) (*reduction, api.Errno) {
	if e := Check(s, t); e != api.OK {
		return nil, e
	}
	if fuel < 0 || fuel > api.MaxSteps {
		return nil, api.ErrArg
	}
	return &reduction{funs: s.Funs, bodies: make([]*shape, len(s.Funs)), now: shapeOf(t).with(nil), fuel: fuel}, api.OK
}

// replaced makes steps while it can, and visits the function that each of them has replaced.
func (r *reduction) replaced() iter.Seq[int] {
	return func(yield func(int) bool) {
		for range r.fuel {
			if r.done() || r.large() {
				return
			}
			f := r.now.head().n
			r.now = r.body(f).with(r.now.args())
			if !yield(f) {
				return
			}
		}
	}
}

func (r *reduction) body(f int) *shape {
	if r.bodies[f] == nil {
		r.bodies[f] = shapeOf(r.funs[f].Body)
	}
	return r.bodies[f]
}

func (r *reduction) done() bool {
	return r.now.head().kind == api.KSym
}

// large reports whether the term has become too large.
func (r *reduction) large() bool {
	return r.now.nodes > api.MaxSize
}

// end returns why no more steps are made: OK if the term is done.
func (r *reduction) end() api.Errno {
	switch {
	case r.large():
		return api.ErrLimit
	case !r.done():
		return api.ErrFuel
	}
	return api.OK
}
