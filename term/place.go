package term

import (
	"virgation/api"
	"virgation/scan"
	"virgation/sorts"
)

// A Place gives terms a meaning: symbols, the sorts of functions and those of parameters.
type Place struct {
	Syms   []api.Symbol
	Funs   []api.Sort
	Params []api.Sort
}

// Check returns ErrArg if p is not a valid place.
func Check(p Place) api.Errno {
	if !scan.AreSymbols(p.Syms) || !valid(p.Funs, api.MaxFuns) || !valid(p.Params, api.MaxArgs) {
		return api.ErrArg
	}
	return api.OK
}

// Sort returns the sort of t in the place p.
func Sort(p Place, t api.Term) (api.Sort, api.Errno) {
	if e := Check(p); e != api.OK {
		return api.Sort{}, e
	}
	if !small(t) {
		return api.Sort{}, api.ErrLimit
	}
	fits := all(t, func(x api.Term) bool { return suited(p, x) })
	if !fits {
		return api.Sort{}, api.ErrSort
	}
	s, _ := rest(p, t)
	return sorts.Behind(s, 0) // a copy: s shares memory with the place
}

// valid reports whether l are valid sorts, at most as many as are told.
func valid(l []api.Sort, most int) bool {
	if len(l) > most {
		return false
	}
	for _, s := range l {
		if sorts.Check(s) != api.OK {
			return false
		}
	}
	return true
}

// suited reports whether the head of t takes the arguments of t, if these suit their own arguments.
func suited(p Place, t api.Term) bool {
	if _, ok := rest(p, t); !ok {
		return false
	}
	h, _ := head(p, t)
	for i, a := range t.Args {
		s, ok := rest(p, a)
		if !ok || !sorts.Same(s, h.Args[i]) {
			return false
		}
	}
	return true
}

// rest returns the sort of the head of t behind as many arguments as t has; it looks at no argument.
func rest(p Place, t api.Term) (api.Sort, bool) {
	h, ok := head(p, t)
	if !ok || len(t.Args) > len(h.Args) {
		return api.Sort{}, false
	}
	return api.Sort{Args: h.Args[len(t.Args):]}, true
}

// head returns the sort of the head of t, if the place has one like it.
func head(p Place, t api.Term) (api.Sort, bool) {
	switch {
	case t.N < 0:
		return api.Sort{}, false
	case t.Kind == api.KVar && t.N < len(p.Params):
		return p.Params[t.N], true
	case t.Kind == api.KFun && t.N < len(p.Funs):
		return p.Funs[t.N], true
	case t.Kind == api.KSym && t.N < len(p.Syms):
		return api.Sort{Args: make([]api.Sort, p.Syms[t.N].Rank)}, true
	}
	return api.Sort{}, false
}
