package infer

import (
	"slices"

	"virgation/api"
)

// A draft has, in its web, the sorts of all heads as far as they are known.
type draft struct {
	web
	syms, funs []int
	params     [][]int // of each function
}

// newDraft knows of the functions only how many parameters they have.
func newDraft(syms []api.Symbol, l []Loose) *draft {
	d := &draft{}
	o := d.add(node{kind: tree})
	for _, x := range syms {
		d.syms = append(d.syms, d.function(slices.Repeat([]int{o}, x.Rank), o))
	}
	for _, f := range l {
		var params []int
		for range f.Params {
			params = append(params, d.add(node{kind: open}))
		}
		d.params = append(d.params, params)
		d.funs = append(d.funs, d.function(params, o))
	}
	return d
}

// body asks that the body of the function i has the sort o.
func (d *draft) body(i int, t api.Term) {
	o := d.add(node{kind: tree})
	d.equate(d.sort(i, t), o)
}

// sort returns the sort of a term in the body of the function i, and asks of its heads that it has one.
func (d *draft) sort(i int, t api.Term) int {
	s := d.head(i, t)
	for _, a := range t.Args {
		from := d.sort(i, a)
		behind := d.add(node{kind: open})
		d.equate(s, d.function([]int{from}, behind))
		s = behind
	}
	return s
}

func (d *draft) head(i int, t api.Term) int {
	switch t.Kind {
	case api.KVar:
		return d.params[i][t.N]
	case api.KFun:
		return d.funs[t.N]
	}
	return d.syms[t.N]
}
