// Package scan reads texts from left to right: what the readers of the layers have in common, and what names and symbols are.
package scan

import (
	"strconv"
	"strings"

	"virgation/api"
)

// A Reader has the rest of a text; its methods panic if that does not begin with what they need.
type Reader struct {
	rest string
}

// All reads a text with a function that may panic; ok tells that it did not, and that it left nothing of the text.
func All[T any](text string, read func(*Reader) T) (result T, ok bool) {
	defer func() {
		if recover() != nil {
			var none T
			result, ok = none, false
		}
	}()
	r := &Reader{rest: text}
	result = read(r)
	if !r.Ended() {
		Fail()
	}
	return result, true
}

// Fail ends the reading of a text that is not what it should be.
func Fail() {
	panic(api.ErrForm)
}

// Ended reports whether nothing is left of the text.
func (r *Reader) Ended() bool {
	return r.rest == ""
}

// Skip passes over a word if the rest begins with it.
func (r *Reader) Skip(word string) bool {
	rest, found := strings.CutPrefix(r.rest, word)
	r.rest = rest
	return found
}

// Need passes over a word.
func (r *Reader) Need(word string) {
	if !r.Skip(word) {
		Fail()
	}
}

// Until returns what is ahead of the next such mark, and passes over both.
func (r *Reader) Until(mark string) string {
	part, rest, found := strings.Cut(r.rest, mark)
	if !found {
		Fail()
	}
	r.rest = rest
	return part
}

// Name reads a name, to the last byte that may belong to one.
func (r *Reader) Name() string {
	name := r.while(inName)
	if !IsName(name) {
		Fail()
	}
	return name
}

// Number reads a decimal number without leading zeros, at most as large as is told.
func (r *Reader) Number(most int) int {
	digits := r.while(digit)
	n, err := strconv.Atoi(digits)
	if err != nil || n > most || len(digits) > 1 && digits[0] == '0' {
		Fail()
	}
	return n
}

// while passes over the bytes of a class that the rest begins with, and returns them.
func (r *Reader) while(class func(byte) bool) string {
	n := 0
	for n < len(r.rest) && class(r.rest[n]) {
		n++
	}
	part := r.rest[:n]
	r.rest = r.rest[n:]
	return part
}

// IsName reports whether text is a name.
func IsName(text string) bool {
	if text == "" || len(text) > api.MaxName || !letter(text[0]) {
		return false
	}
	for _, c := range []byte(text) {
		if !inName(c) {
			return false
		}
	}
	return true
}

// AreSymbols reports whether l are symbols: their number, their ranks and their names, which are different.
func AreSymbols(l []api.Symbol) bool {
	if len(l) > api.MaxSyms {
		return false
	}
	met := map[string]bool{}
	for _, s := range l {
		if !IsName(s.Name) || met[s.Name] || s.Rank < 0 || s.Rank > api.MaxRank {
			return false
		}
		met[s.Name] = true
	}
	return true
}

func inName(c byte) bool {
	return letter(c) || digit(c) || c == '_'
}

func letter(c byte) bool {
	return 'a' <= c && c <= 'z'
}

func digit(c byte) bool {
	return '0' <= c && c <= '9'
}
