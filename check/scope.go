package check

import "athanor/api"

// scope is how many locals the ribs have: those of the codes that are looked at within one another, the innermost last, and those around them all, the innermost first.
type scope struct {
	own   []int
	outer []int
}

// enter puts a code's own rib ahead of all others.
func (s *scope) enter(c *api.Code) {
	locals := c.Need
	if c.Rest {
		locals++
	}
	s.own = append(s.own, locals)
}

// leave takes the innermost code's rib away again.
func (s *scope) leave() { s.own = s.own[:len(s.own)-1] }

// has tells whether a rib that is so many ribs away is there, and has such a local.
func (s *scope) has(away, local int) bool {
	if away < 0 || local < 0 {
		return false
	}
	if away < len(s.own) {
		return local < s.own[len(s.own)-1-away]
	}
	away -= len(s.own)
	return away < len(s.outer) && local < s.outer[away]
}
