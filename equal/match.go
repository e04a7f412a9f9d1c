package equal

import (
	"athanor/api"
	"athanor/heap"
)

// match is what two words are held against each other by. What is met is held for alike till something tells it apart, which ends all: so what goes round comes to what is held already.
type match struct {
	heap    *heap.Heap
	held    map[[2]api.Word]struct{} // pairs that are held for alike: where one is met again, no more is asked
	leaders map[api.Word]api.Word    // by word, one that leads it: what is held for alike, be it by way of others, comes to one word, which none leads
	open    [][2]api.Word            // pairs that are held, but whose fields were not gone through
}

// meet holds two words for alike; false, if they are told apart without a look at what stands in fields.
func (m *match) meet(a, b api.Word) bool {
	if a == b {
		return true
	}
	pair := [2]api.Word{a, b}
	if _, ok := m.held[pair]; ok {
		return true
	}
	if !mayBeAlike(m.heap, a, b) {
		return false
	}
	m.held[pair] = struct{}{}
	if m.join(a, b) {
		m.open = append(m.open, pair)
	}
	return true
}

// join lets two words come to the same leader; false, if they did already. Then their fields are held for alike by way of others, and need no look: else two rings would cost the product of their lengths.
func (m *match) join(a, b api.Word) bool {
	a, b = m.leader(a), m.leader(b)
	if a == b {
		return false
	}
	m.leaders[b] = a
	return true
}

// leader is the word that a word comes to. The way is made shorter as it is gone.
func (m *match) leader(w api.Word) api.Word {
	for {
		next, ok := m.leaders[w]
		if !ok {
			return w
		}
		if far, ok := m.leaders[next]; ok {
			m.leaders[w] = far
		}
		w = next
	}
}

// meetFields goes through the fields of two objects that may be alike; false, if they are told apart.
func (m *match) meetFields(pair [2]api.Word) bool {
	a, b := pair[0], pair[1]
	switch sameType(m.heap, a, b) {
	case api.TPair, api.TVector:
		return allFields(m.heap, a, b, m.meet)
	case api.TBig:
		return sameInteger(m.heap, a, b)
	}
	return sameFields(m.heap, a, b) // in a text a place is no more than a word
}
