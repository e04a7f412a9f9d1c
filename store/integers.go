package store

import (
	"athanor/api"
	"athanor/bigs"
	"athanor/heap"
	"athanor/limbs"
	"athanor/word"
)

// number is the word of a number that is known to be in Fix's bounds.
func number(n int64) api.Word {
	w, _ := word.Fix(n)
	return w
}

// numberUpTo is the number that a word says, if it is from 0 to most.
func numberUpTo(most int64, w api.Word) (int64, bool) {
	n, ok := word.Int(w)
	return n, ok && 0 <= n && n <= most
}

// lengthOfInt tells how many words the object of an integer has, with its head; 0, if it needs none.
func lengthOfInt(digits string) int {
	x, _ := limbs.Parse(digits, 10)
	return bigs.Need(x)
}

// layInt lays an integer, if it needs an object, and tells its word.
func layInt(h *heap.Heap, digits string) api.Word {
	x, _ := limbs.Parse(digits, 10)
	w, _ := bigs.Lay(h, x)
	return w
}

// bigNode is the node of an object that is an integer.
func bigNode(h *heap.Heap, p api.Word) api.Node {
	x, ok := bigs.Read(h, p)
	if !ok {
		return voidNode()
	}
	digits, _ := limbs.Print(x, 10)
	return api.Node{Kind: api.GInt, Text: digits}
}
