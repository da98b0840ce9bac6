package grow

import (
	"virgation/api"
	"virgation/step"
)

// unknown is the symbol of an unknown tree.
const unknown = -1

// A growth is a tree that grows; a term that occurs often in it is reduced only once.
type growth struct {
	scheme api.Scheme
	fuel   int                // for each term
	met    map[string]*result // of terms that have been reduced, by their keys
	nodes  int
}

// A place in a tree, or several places, has a term, until the result of its reduction is known.
type place struct {
	term   api.Term
	result *result
}

// A result is what the reduction of a term has come to: an error, or a symbol, and the places of its kids.
type result struct {
	e    api.Errno
	sym  int
	kids []*place
}

func newGrowth(s api.Scheme, fuel int) *growth {
	return &growth{scheme: s, fuel: fuel, met: map[string]*result{}}
}

// tree returns what the term of p has grown to. Once there are too many nodes it grows no further.
func (g *growth) tree(p *place, depth int) api.Tree {
	g.nodes++
	if depth == 0 || g.nodes > api.MaxTree {
		return api.Tree{Sym: unknown}
	}
	r := g.reduced(p)
	if r.e != api.OK {
		return api.Tree{Sym: unknown}
	}
	t := api.Tree{Sym: r.sym}
	for _, k := range r.kids {
		t.Kids = append(t.Kids, g.tree(k, depth-1))
	}
	return t
}

func (g *growth) reduced(p *place) *result {
	if p.result == nil {
		p.result = g.find(p.term)
		p.term = api.Term{} // it may be large
	}
	return p.result
}

// find returns the result of a term's reduction, and makes that if it was not made before.
func (g *growth) find(t api.Term) *result {
	if t.Kind == api.KSym { // checking the scheme again, as Run does, would take most of the time
		return done(t)
	}
	key := string(appendKey(nil, t))
	r, met := g.met[key]
	if !met {
		r = g.reduce(t)
		g.met[key] = r
	}
	return r
}

func (g *growth) reduce(t api.Term) *result {
	last, _, e := step.Run(g.scheme, t, g.fuel)
	if e != api.OK {
		return &result{e: e}
	}
	return done(last)
}

// done returns the result of a term whose head is a symbol.
func done(t api.Term) *result {
	r := &result{sym: t.N}
	for _, a := range t.Args {
		r.kids = append(r.kids, &place{term: a})
	}
	return r
}

// appendKey writes a closed term so that it differs from all others of its scheme: there each of these numbers is small.
func appendKey(key []byte, t api.Term) []byte {
	key = append(key, byte(t.Kind), byte(t.N), byte(len(t.Args)))
	for _, a := range t.Args {
		key = appendKey(key, a)
	}
	return key
}
