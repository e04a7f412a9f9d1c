package heap

import "athanor/api"

// Word tells a word.
func (h *Heap) Word(i int) api.Word {
	if !h.isUsed(i) {
		return 0
	}
	return h.row[i]
}

// Put puts a word.
func (h *Heap) Put(i int, w api.Word) {
	if h.isUsed(i) {
		h.row[i] = w
	}
}

// Cut lets words be used no more.
func (h *Heap) Cut(n int) {
	if 0 <= n && n < h.Used() { // to cut at what is used changes nothing
		h.used = n
	}
}

// isUsed tells whether a place is one of a word that is used.
func (h *Heap) isUsed(i int) bool { return 0 <= i && i < h.Used() }
