package closure

import (
	"slices"

	"virgation/api"
)

// A machine counts its closures when it has made some of them, and gives up if there are more than most. Each step makes
// at most MaxArgs, and so does each place of a path: with 2000 steps no machine comes to count them.
const (
	some = 1 << 19
	most = 1 << 20
)

// A state is a place in a tree, and the head of the term there, with the stack of its arguments. Nothing that it refers
// to is ever changed: copies of it are independent.
type state struct {
	head  *code      // of a function or a symbol
	stack []*closure // the first argument is the last one here
	path  []int
	known bool // Go has returned the symbol at this place
	made  int  // closures since they were counted
	inUse int  // closures when they were counted
}

// enter goes to the head of the term of c: arguments on the way are put on the stack, a variable becomes its closure.
func (s *state) enter(c *closure) {
	stack := make([]*closure, 0, api.MaxArgs)
	stack = c.push(stack)
	for c.code.kind == api.KVar {
		c = c.vars[c.code.n]
		stack = c.push(stack)
	}
	s.head, s.stack = c.code, stack
	s.made += len(stack)
}

// arg returns an argument of the head, counted from 0.
func (s *state) arg(i int) *closure {
	return s.stack[len(s.stack)-1-i]
}

// crowded reports whether too many closures are in use. To count them takes a while, so it is done only when there may be
// twice as many as the last time. It depends on the steps alone, not on where a machine had to wait for fuel.
func (s *state) crowded() bool {
	if s.made >= s.inUse+some {
		s.made, s.inUse = 0, s.count()
	}
	return s.inUse > most
}

// count returns how many closures are in use, or more than most if that is so.
func (s *state) count() int {
	met := map[*closure]bool{}
	todo := slices.Clone(s.stack)
	for len(todo) > 0 && len(met) <= most {
		c := todo[len(todo)-1]
		todo = todo[:len(todo)-1]
		if c != nil && !met[c] {
			met[c] = true
			todo = append(todo, c.vars...)
		}
	}
	return len(met)
}
