package sorts

import (
	"strings"

	"virgation/api"
	"virgation/scan"
)

const arrow = " > "

// Put returns the string of s.
func Put(s api.Sort) (string, api.Errno) {
	if e := Check(s); e != api.OK {
		return "", e
	}
	return spell(s), api.OK
}

// Get returns the sort whose string is text.
func Get(text string) (api.Sort, api.Errno) {
	if len(text) > api.MaxText {
		return api.Sort{}, api.ErrLimit
	}
	s, ok := scan.All(text, read)
	if !ok {
		return api.Sort{}, api.ErrForm
	}
	if e := Check(s); e != api.OK {
		return api.Sort{}, e
	}
	return s, api.OK
}

func spell(s api.Sort) string {
	var out strings.Builder
	for _, a := range s.Args {
		if len(a.Args) == 0 {
			out.WriteString("o")
		} else {
			out.WriteString("(" + spell(a) + ")")
		}
		out.WriteString(arrow)
	}
	out.WriteString("o")
	return out.String()
}

// read reads a sort of any size: arguments, each with an arrow behind it, up to the o that has none.
func read(r *scan.Reader) api.Sort {
	var s api.Sort
	for {
		if r.Skip("(") {
			a := bracketed(r)
			r.Need(arrow)
			s.Args = append(s.Args, a)
			continue
		}
		r.Need("o")
		if !r.Skip(arrow) {
			return s
		}
		s.Args = append(s.Args, api.Sort{})
	}
}

// bracketed reads an argument behind its opening bracket; o has no brackets.
func bracketed(r *scan.Reader) api.Sort {
	s := read(r)
	if len(s.Args) == 0 {
		scan.Fail()
	}
	r.Need(")")
	return s
}
