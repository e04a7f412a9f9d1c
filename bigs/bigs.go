// Package bigs holds what layers 9 and 11 share: which integers have a word of their own, and how the others lie in a heap as objects. See shared/doc/09-store.md.
package bigs

import (
	"athanor/api"
	"athanor/heap"
	"athanor/limbs"
	"athanor/word"
)

// Word is the word of an integer that is in Fix's bounds.
func Word(x api.Int) (api.Word, bool) {
	n, ok := limbs.To(x)
	if !ok {
		return 0, false
	}
	return word.Fix(n)
}

// Need tells how many words a good integer's object has, with its head; 0, if it needs none, and of what is not good.
func Need(x api.Int) int {
	if _, ok := Word(x); ok || !limbs.Good(x) {
		return 0
	}
	return 2 + len(x.Mag)
}

// Lay lays the object of a good integer, if it needs one, and tells its word; ErrArg of what is not good; ErrFull, if there is no room.
func Lay(h *heap.Heap, x api.Int) (api.Word, api.Errno) {
	if !limbs.Good(x) {
		return 0, api.ErrArg
	}
	if w, ok := Word(x); ok {
		return w, api.OK
	}
	return h.Alloc(api.TBig, fieldsOf(x)...)
}

// Read is the integer that a word's object is; false, if it is none, or one that has a word of its own and no other form.
func Read(h *heap.Heap, p api.Word) (api.Int, bool) {
	if kind, _ := h.Kind(p); kind != api.TBig {
		return api.Int{}, false
	}
	x, ok := integer(firstFields(h, p))
	if _, fixed := Word(x); fixed || !ok {
		return api.Int{}, false
	}
	return x, true
}
