package gc

import (
	"athanor/api"
	"athanor/heap"
	"athanor/word"
)

// mover makes the closure that tells what a word is behind a collection: the new place of an object that lives, or the word as it was.
func mover(lengths []int) func(api.Word) api.Word {
	places := make([]int, len(lengths))
	next := 0
	for at, n := range lengths {
		places[at] = next
		next += n
	}
	return func(w api.Word) api.Word {
		at, ok := word.At(w)
		if !ok || at >= len(lengths) || lengths[at] == 0 {
			return w
		}
		p, _ := word.Ptr(places[at])
		return p
	}
}

// slide lays the living objects one behind the other. They go in their order and only ever to the front, so no word is written over that is still to move.
func slide(h *heap.Heap, lengths []int, move func(api.Word) api.Word) {
	next := 0
	for at, n := range lengths {
		for i := at; i < at+n; i++ {
			h.Put(next, move(h.Word(i))) // a head says no place, and stays what it is
			next++
		}
	}
	h.Cut(next)
}
