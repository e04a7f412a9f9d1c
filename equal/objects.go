package equal

import (
	"athanor/api"
	"athanor/heap"
	"athanor/store"
	"athanor/word"
)

// field is an object's field, and whether there is one: none is behind the next head or what is used, so that no word is two objects' field, whatever heads were put.
func field(h *heap.Heap, p api.Word, i int) (api.Word, bool) {
	w, err := h.Get(p, 0, i)
	_, _, isHead := word.HeadOf(w)
	return w, err == api.OK && !isHead
}

// allFields tells whether two objects have as many fields and all are the same, as is asked of each two that stand at one place.
func allFields(h *heap.Heap, a, b api.Word, same func(v, w api.Word) bool) bool {
	for i := 0; ; i++ {
		v, ok := field(h, a, i)
		w, okToo := field(h, b, i)
		if !ok || !okToo {
			return ok == okToo
		}
		if !same(v, w) {
			return false
		}
	}
}

// sameFields tells whether two objects have the same words as fields.
func sameFields(h *heap.Heap, a, b api.Word) bool {
	return allFields(h, a, b, func(v, w api.Word) bool { return v == w })
}

// sameType is the type that two words' objects have both; 0, which no object has, if there is none.
func sameType(h *heap.Heap, a, b api.Word) int {
	kind, _ := h.Kind(a) // 0 beside an error
	other, _ := h.Kind(b)
	if kind != other {
		return 0
	}
	return kind
}

// mayBeAlike tells whether two words say objects that nothing but fields can tell apart.
func mayBeAlike(h *heap.Heap, a, b api.Word) bool {
	switch sameType(h, a, b) {
	case api.TPair, api.TVector, api.TString, api.TBytes:
		size, _ := h.Size(a)
		other, _ := h.Size(b)
		return size == other
	case api.TBig:
		return true
	}
	return false
}

// sameInteger tells whether two words say objects that are the same integer by layer 9.
func sameInteger(h *heap.Heap, a, b api.Word) bool {
	if sameType(h, a, b) != api.TBig || !sameFields(h, a, b) { // an integer has one form: with other fields it is another one
		return false
	}
	return store.Show(h, nil, a).Nodes[0].Kind == api.GInt
}
