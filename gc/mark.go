package gc

import (
	"athanor/api"
	"athanor/heap"
	"athanor/word"
)

// mark tells for each place how many words the living object has that begins there, with its head; 0, where none does.
func mark(h *heap.Heap, roots []api.Word) []int {
	lengths := make([]int, h.Used())
	var stack []int // places of objects that live and whose fields were not gone through: calls within one another would be as deep as a chain is long
	reach := func(w api.Word) {
		at, ok := word.At(w)
		if !ok || !isHead(h.Word(at)) || lengths[at] > 0 { // a word that is not used is no head
			return
		}
		lengths[at] = length(h, at)
		stack = append(stack, at)
	}
	for _, w := range roots {
		reach(w)
	}
	for len(stack) > 0 {
		top := len(stack) - 1
		at := stack[top]
		stack = stack[:top:cap(stack)] // its room stays, so that the next one that is put there moves nothing
		for i := at + 1; i < at+lengths[at]; i++ {
			reach(h.Word(i))
		}
	}
	return lengths
}

// length tells how many words an object has, with its head: no more than reach to the next head or to what is not used, so that no two objects share a word, whatever heads were put.
func length(h *heap.Heap, at int) int {
	_, size, _ := word.HeadOf(h.Word(at))
	end := min(at+1+size, h.Used())
	for i := at + 1; i < end; i++ {
		if isHead(h.Word(i)) {
			return i - at
		}
	}
	return end - at
}

func isHead(w api.Word) bool {
	_, _, ok := word.HeadOf(w)
	return ok
}
