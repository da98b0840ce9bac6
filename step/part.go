package step

import "virgation/api"

// A shape is a term that knows its nodes, and how often each variable occurs in it.
type shape struct {
	kind, n int
	args    []*shape
	nodes   int
	uses    [api.MaxArgs]int
}

func shapeOf(t api.Term) *shape {
	x := &shape{kind: t.Kind, n: t.N, nodes: 1}
	if t.Kind == api.KVar {
		x.uses[t.N] = 1
	}
	for _, a := range t.Args {
		y := shapeOf(a)
		x.args = append(x.args, y)
		x.nodes += y.nodes
		for i, k := range y.uses {
			x.uses[i] += k
		}
	}
	return x
}

// with returns x with parts in the place of its variables.
func (x *shape) with(vars []*part) *part {
	if x.kind == api.KVar && len(x.args) == 0 {
		return vars[x.n]
	}
	p := &part{shape: x, vars: make([]*part, len(vars)), nodes: x.nodes}
	for i, v := range vars {
		if x.uses[i] > 0 {
			p.vars[i] = v
			p.nodes += x.uses[i] * (v.nodes - 1)
		}
	}
	return p
}

// A part is a closed term: a shape with other parts in the place of its variables. It is written out only at the end, so
// a step takes little time, however large the body and the arguments are.
type part struct {
	shape *shape
	vars  []*part // nil for variables that do not occur: what a term has lost is not kept in memory
	nodes int
}

// head returns a shape with the head of p.
func (p *part) head() *shape {
	for p.shape.kind == api.KVar {
		p = p.vars[p.shape.n]
	}
	return p.shape
}

// args returns the arguments of the head of p: those of what a variable stands for come ahead of its own.
func (p *part) args() []*part {
	var out []*part
	if p.shape.kind == api.KVar {
		out = p.vars[p.shape.n].args()
	}
	for _, a := range p.shape.args {
		out = append(out, a.with(p.vars))
	}
	return out
}

// term writes p out, in new memory.
func (p *part) term() api.Term {
	h := p.head()
	t := api.Term{Kind: h.kind, N: h.n}
	for _, a := range p.args() {
		t.Args = append(t.Args, a.term())
	}
	return t
}
