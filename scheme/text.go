package scheme

import (
	"strconv"
	"strings"

	"virgation/api"
	"virgation/scan"
	"virgation/sorts"
)

// mostNumber is the greatest number that a text may have.
const mostNumber = 1000000000

// Put returns the string of s.
func Put(s api.Scheme) (string, api.Errno) {
	if e := Check(s); e != api.OK {
		return "", e
	}
	var out strings.Builder
	for _, x := range s.Syms {
		out.WriteString("symbol " + x.Name + " " + strconv.Itoa(x.Rank) + "\n")
	}
	for _, f := range s.Funs {
		sort, _ := sorts.Put(f.Sort)
		out.WriteString("fun " + f.Name + " : " + sort + " = " + spell(s, f.Body) + "\n")
	}
	if out.Len() > api.MaxText {
		return "", api.ErrLimit
	}
	return out.String(), api.OK
}

// Get returns the scheme whose string is text.
func Get(text string) (api.Scheme, api.Errno) {
	if len(text) > api.MaxText {
		return api.Scheme{}, api.ErrLimit
	}
	d, ok := scan.All(text, lines)
	if !ok || !d.readBodies() {
		return api.Scheme{}, api.ErrForm
	}
	if d.unsorted || Check(d.Scheme) != api.OK {
		return api.Scheme{}, api.ErrScheme
	}
	return d.Scheme, api.OK
}

// spell returns the string of a term of s.
func spell(s api.Scheme, t api.Term) string {
	var out strings.Builder
	out.WriteString(head(s, t))
	for _, a := range t.Args {
		if len(a.Args) == 0 {
			out.WriteString(" " + head(s, a))
		} else {
			out.WriteString(" (" + spell(s, a) + ")")
		}
	}
	return out.String()
}

func head(s api.Scheme, t api.Term) string {
	switch t.Kind {
	case api.KVar:
		return "$" + strconv.Itoa(t.N)
	case api.KFun:
		return s.Funs[t.N].Name
	}
	return "#" + s.Syms[t.N].Name
}

// A draft is a scheme that is being read. Its bodies are read last: they may name functions of later lines.
type draft struct {
	api.Scheme
	bodies     []string
	unsorted   bool // a sort has the right form, but is not valid
	syms, funs map[string]int
}

// lines reads the lines of a scheme, but for their bodies.
func lines(r *scan.Reader) *draft {
	d := &draft{syms: map[string]int{}, funs: map[string]int{}}
	for r.Skip("symbol ") {
		d.symbol(r)
	}
	for !r.Ended() {
		r.Need("fun ")
		d.function(r)
	}
	return d
}

// symbol reads the line of a symbol behind its first word.
func (d *draft) symbol(r *scan.Reader) {
	name := r.Name()
	r.Need(" ")
	rank := r.Number(mostNumber)
	r.Need("\n")
	enter(d.syms, name, len(d.Syms))
	d.Syms = append(d.Syms, api.Symbol{Name: name, Rank: rank})
}

// function reads the line of a function behind its first word.
func (d *draft) function(r *scan.Reader) {
	name := r.Name()
	r.Need(" : ")
	sort, e := sorts.Get(r.Until(" = "))
	if e == api.ErrForm {
		scan.Fail()
	}
	d.unsorted = d.unsorted || e != api.OK
	d.bodies = append(d.bodies, r.Until("\n"))
	enter(d.funs, name, len(d.Funs))
	d.Funs = append(d.Funs, api.Fun{Name: name, Sort: sort})
}

// enter gives a name a number, unless it has one.
func enter(names map[string]int, name string, n int) {
	if _, met := names[name]; !met {
		names[name] = n
	}
}

// readBodies reads the bodies; it reports whether all of them are strings of terms.
func (d *draft) readBodies() bool {
	for i, body := range d.bodies {
		t, ok := scan.All(body, d.term)
		if !ok {
			return false
		}
		d.Funs[i].Body = t
	}
	return true
}

// term reads a term of any size.
func (d *draft) term(r *scan.Reader) api.Term {
	t := d.head(r)
	for r.Skip(" ") {
		t.Args = append(t.Args, d.argument(r))
	}
	return t
}

// argument reads an argument, which has brackets if and only if it has arguments.
func (d *draft) argument(r *scan.Reader) api.Term {
	if !r.Skip("(") {
		return d.head(r)
	}
	t := d.term(r)
	if len(t.Args) == 0 {
		scan.Fail()
	}
	r.Need(")")
	return t
}

func (d *draft) head(r *scan.Reader) api.Term {
	if r.Skip("$") {
		return api.Term{Kind: api.KVar, N: r.Number(mostNumber)}
	}
	if r.Skip("#") {
		return api.Term{Kind: api.KSym, N: number(r, d.syms)}
	}
	return api.Term{Kind: api.KFun, N: number(r, d.funs)}
}

// number reads one of some names, and returns its number.
func number(r *scan.Reader, names map[string]int) int {
	n, known := names[r.Name()]
	if !known {
		scan.Fail()
	}
	return n
}
