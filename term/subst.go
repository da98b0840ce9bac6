package term

import (
	"slices"

	"virgation/api"
)

// Subst returns t with args in the place of its variables.
func Subst(t api.Term, args []api.Term) (api.Term, api.Errno) {
	if !small(t) {
		return api.Term{}, api.ErrLimit
	}
	sizes := make([]int, len(args))
	for i, a := range args {
		sizes[i] = count(a)
		if sizes[i] == tooMany {
			return api.Term{}, api.ErrLimit
		}
	}
	known := all(t, func(x api.Term) bool {
		return x.Kind != api.KVar || x.N >= 0 && x.N < len(args)
	})
	if !known {
		return api.Term{}, api.ErrArg
	}
	if !roomy(t, sizes) {
		return api.Term{}, api.ErrLimit
	}
	return replace(t, args), api.OK
}

// Apply returns t, applied to args behind its own arguments.
func Apply(t api.Term, args []api.Term) (api.Term, api.Errno) {
	nodes := count(t)
	for _, a := range args {
		// A sum that is too large stays so; it ends here since there may be any number of args.
		if nodes >= tooMany {
			break
		}
		nodes += count(a)
	}
	if nodes >= tooMany {
		return api.Term{}, api.ErrLimit
	}
	return api.Term{Kind: t.Kind, N: t.N, Args: join(t.Args, args, fresh)}, api.OK
}

// roomy reports whether t has at most MaxSize nodes when each variable has become an arg of its size.
func roomy(t api.Term, sizes []int) bool {
	nodes := 0
	return all(t, func(x api.Term) bool {
		nodes++
		if x.Kind == api.KVar {
			nodes += sizes[x.N] - 1
		}
		return nodes < tooMany
	})
}

// replace substitutes where neither an error nor a limit is left.
func replace(t api.Term, args []api.Term) api.Term {
	head := api.Term{Kind: t.Kind, N: t.N}
	if t.Kind == api.KVar {
		head = args[t.N]
	}
	kids := join(head.Args, t.Args, func(x api.Term) api.Term { return replace(x, args) })
	return api.Term{Kind: head.Kind, N: head.N, Args: kids}
}

// join returns the terms of own, as they are, and those of more, changed, in new memory.
func join(own, more []api.Term, change func(api.Term) api.Term) []api.Term {
	out := slices.Grow([]api.Term(nil), len(own)+len(more))
	for _, x := range own {
		out = append(out, fresh(x))
	}
	for _, x := range more {
		out = append(out, change(x))
	}
	return out
}

// fresh returns t in new memory.
func fresh(t api.Term) api.Term {
	return api.Term{Kind: t.Kind, N: t.N, Args: join(t.Args, nil, fresh)}
}
