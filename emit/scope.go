package emit

import (
	"slices"

	"athanor/api"
)

// spot is where a local stands: the rib, counted from outside, and which one of its locals it is.
type spot struct{ rib, at int }

// scope is what is bound around: how many ribs there are, and for each number its spots, the innermost one last.
type scope struct {
	ribs  int
	spots map[int][]spot
}

// newScope is a scope in which nothing is bound.
func newScope() *scope { return &scope{spots: map[int][]spot{}} }

// locals are those that a lambda binds, as they stand in its rib.
func locals(c *api.Core) []int {
	if c.Rest == 0 {
		return c.Params
	}
	return append(slices.Clone(c.Params), c.Rest)
}

// enter binds a lambda's locals; false, if it binds one twice.
func (s *scope) enter(c *api.Core) bool {
	s.ribs++
	for i, number := range locals(c) {
		if s.binds(number) && s.innermost(number).rib == s.ribs {
			return false
		}
		s.spots[number] = append(s.spots[number], spot{rib: s.ribs, at: i})
	}
	return true
}

// leave takes a lambda's locals away again.
func (s *scope) leave(c *api.Core) {
	for _, number := range locals(c) {
		all := s.spots[number]
		s.spots[number] = all[:len(all)-1]
	}
	s.ribs--
}

// binds tells whether a number is a local here.
func (s *scope) binds(number int) bool { return len(s.spots[number]) > 0 }

// innermost is where the innermost local of a number stands.
func (s *scope) innermost(number int) spot {
	all := s.spots[number]
	return all[len(all)-1]
}

// find tells how many ribs away a local is, and which one it is there.
func (s *scope) find(number int) (away, at int) {
	found := s.innermost(number)
	return s.ribs - found.rib, found.at
}
