package heap

import (
	"athanor/api"
	"athanor/word"
)

// Get tells a field.
func (h *Heap) Get(p api.Word, kind, i int) (api.Word, api.Errno) {
	at, err := h.field(p, kind, i)
	if err != api.OK {
		return 0, err
	}
	return h.row[at], api.OK
}

// Set sets a field.
func (h *Heap) Set(p api.Word, kind, i int, w api.Word) api.Errno {
	at, err := h.field(p, kind, i)
	if err != api.OK {
		return err
	}
	if isHead(w) {
		return api.ErrArg
	}
	h.row[at] = w
	return api.OK
}

// Kind tells an object's type.
func (h *Heap) Kind(p api.Word) (int, api.Errno) {
	_, kind, _, err := h.object(p)
	return kind, err
}

// Size tells how many fields it has.
func (h *Heap) Size(p api.Word) (int, api.Errno) {
	_, _, size, err := h.object(p)
	return size, err
}

// Objects tells all places.
func (h *Heap) Objects() []api.Word {
	var out []api.Word
	for at := range h.Used() {
		if isHead(h.row[at]) { // asked of each word: a walk by sizes would go astray over heads that were put
			p, _ := word.Ptr(at)
			out = append(out, p)
		}
	}
	return out
}

// object tells a place that is there, and the type and the size of its object.
func (h *Heap) object(p api.Word) (at, kind, size int, err api.Errno) {
	at, ok := word.At(p)
	if !ok {
		return 0, 0, 0, api.ErrType
	}
	kind, size, ok = word.HeadOf(h.Word(at)) // a word that is not used is no head
	if !ok {
		return 0, 0, 0, api.ErrType
	}
	return at, kind, size, api.OK
}

// field tells the place of an object's field.
func (h *Heap) field(p api.Word, kind, i int) (int, api.Errno) {
	at, own, size, err := h.object(p)
	if err != api.OK || kind != 0 && kind != own {
		return 0, api.ErrType
	}
	if i < 0 || i >= size || !h.isUsed(at+1+i) { // a head that was put, or a cut, may leave fewer words than the head says
		return 0, api.ErrRange
	}
	return at + 1 + i, api.OK
}
