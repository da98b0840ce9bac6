package sorts

import (
	"strings"

	"virgation/api"
)

const arrow = " > "

// Put returns the string of s.
func Put(s api.Sort) (string, api.Errno) {
	if e := Check(s); e != api.OK {
		return "", e
	}
	return spell(s), api.OK
}

// Get returns the sort whose string is text.
func Get(text string) (api.Sort, api.Errno) {
	if len(text) > api.MaxText {
		return api.Sort{}, api.ErrLimit
	}
	s, ok := read(text)
	if !ok {
		return api.Sort{}, api.ErrForm
	}
	if e := Check(s); e != api.OK {
		return api.Sort{}, e
	}
	return s, api.OK
}

func spell(s api.Sort) string {
	var out strings.Builder
	for _, a := range s.Args {
		if len(a.Args) == 0 {
			out.WriteString("o")
		} else {
			out.WriteString("(" + spell(a) + ")")
		}
		out.WriteString(arrow)
	}
	out.WriteString("o")
	return out.String()
}

// read reads all of text as one sort, of any size; it reports whether text is the string of one.
func read(text string) (s api.Sort, ok bool) {
	defer func() {
		if recover() != nil {
			s, ok = api.Sort{}, false
		}
	}()
	r := reader{rest: text}
	s = r.sort()
	if r.rest != "" {
		panic(api.ErrForm)
	}
	return s, true
}

// A reader has the rest of a text; its methods panic if that does not begin with what they need.
type reader struct {
	rest string
}

// skip passes over a word if the rest begins with it.
func (r *reader) skip(word string) bool {
	rest, found := strings.CutPrefix(r.rest, word)
	r.rest = rest
	return found
}

func (r *reader) need(word string) {
	if !r.skip(word) {
		panic(api.ErrForm)
	}
}

// sort reads a sort of any size: arguments, each with an arrow behind it, up to the o that has none.
func (r *reader) sort() api.Sort {
	var s api.Sort
	for {
		if r.skip("(") {
			a := r.bracketed()
			r.need(arrow)
			s.Args = append(s.Args, a)
			continue
		}
		r.need("o")
		if !r.skip(arrow) {
			return s
		}
		s.Args = append(s.Args, api.Sort{})
	}
}

// bracketed reads an argument behind its opening bracket; o has no brackets.
func (r *reader) bracketed() api.Sort {
	s := r.sort()
	if len(s.Args) == 0 {
		panic(api.ErrForm)
	}
	r.need(")")
	return s
}
