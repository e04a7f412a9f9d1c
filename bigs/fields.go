package bigs

import (
	"math"

	"athanor/api"
	"athanor/heap"
	"athanor/limbs"
	"athanor/word"
)

// most is how many fields an integer may have: a sign, and its limbs.
const most = 1 + api.MaxLimbs

// fieldsOf are an integer's sign and limbs.
func fieldsOf(x api.Int) []api.Word {
	var sign int64
	if x.Neg {
		sign = 1
	}
	out := []api.Word{number(sign)}
	for _, limb := range x.Mag {
		out = append(out, number(int64(limb)))
	}
	return out
}

// firstFields are an object's fields, but no more than tell that there are too many for an integer. None is behind the next head or what is used, so that no word is two objects' field, whatever heads were put.
func firstFields(h *heap.Heap, p api.Word) []api.Word {
	var out []api.Word
	for i := range most + 1 {
		w, err := h.Get(p, 0, i)
		if _, _, isHead := word.HeadOf(w); isHead || err != api.OK {
			break
		}
		out = append(out, w)
	}
	return out
}

// integer is the good integer whose sign and limbs fields are.
func integer(fields []api.Word) (api.Int, bool) {
	if len(fields) == 0 {
		return api.Int{}, false
	}
	sign, ok := numberUpTo(1, fields[0])
	if !ok {
		return api.Int{}, false
	}
	x := api.Int{Neg: sign == 1}
	for _, w := range fields[1:] {
		limb, ok := numberUpTo(math.MaxUint32, w)
		if !ok {
			return api.Int{}, false
		}
		x.Mag = append(x.Mag, uint32(limb))
	}
	return x, limbs.Good(x)
}

// number is the word of a number that is known to be in Fix's bounds.
func number(n int64) api.Word {
	w, _ := word.Fix(n)
	return w
}

// numberUpTo is the number that a word says, if it is from 0 to last.
func numberUpTo(last int64, w api.Word) (int64, bool) {
	n, ok := word.Int(w)
	return n, ok && 0 <= n && n <= last
}
