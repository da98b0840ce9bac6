package closure

import "virgation/api"

// A code is a term that knows which variables occur in it.
type code struct {
	kind, n int
	args    []*code
	uses    [api.MaxArgs]bool
}

func codeOf(t api.Term) *code {
	c := &code{kind: t.Kind, n: t.N}
	if t.Kind == api.KVar {
		c.uses[t.N] = true
	}
	for _, a := range t.Args {
		x := codeOf(a)
		c.args = append(c.args, x)
		for i, is := range x.uses {
			c.uses[i] = c.uses[i] || is
		}
	}
	return c
}

// with returns the closure of c with the values of its variables. For a variable alone that is its value, so that no long
// chains come to be: a closure whose head is a variable has arguments then, and the value of that asks for more of them.
func (c *code) with(vars []*closure) *closure {
	if c.kind == api.KVar && len(c.args) == 0 {
		return vars[c.n]
	}
	x := &closure{code: c, vars: make([]*closure, len(vars))}
	for i, v := range vars {
		if c.uses[i] {
			x.vars[i] = v
		}
	}
	return x
}

// A closure is a term with the values of its variables.
type closure struct {
	code *code
	vars []*closure // nil for variables that do not occur: what a term has lost is not kept in memory
}

// push puts the arguments of a closure's term on a stack, the first one last.
func (x *closure) push(stack []*closure) []*closure {
	for i := len(x.code.args) - 1; i >= 0; i-- {
		stack = append(stack, x.code.args[i].with(x.vars))
	}
	return stack
}
