package store

import (
	"math"

	"athanor/api"
	"athanor/limbs"
	"athanor/word"
)

// fixed is an integer's word, if it is in Fix's bounds.
func fixed(x api.Int) (api.Word, bool) {
	n, ok := limbs.To(x)
	if !ok {
		return 0, false
	}
	return word.Fix(n)
}

// number is the word of a number that is known to be in Fix's bounds.
func number(n int64) api.Word {
	w, _ := word.Fix(n)
	return w
}

// numberUpTo is the number that a word says, if it is from 0 to most.
func numberUpTo(most int64, w api.Word) (int64, bool) {
	n, ok := word.Int(w)
	return n, ok && 0 <= n && n <= most
}

// bigFields are an integer's sign and limbs.
func bigFields(x api.Int) []api.Word {
	sign := number(0)
	if x.Neg {
		sign = number(1)
	}
	out := []api.Word{sign}
	for _, limb := range x.Mag {
		out = append(out, number(int64(limb)))
	}
	return out
}

// integer is the good integer whose sign and limbs fields are.
func integer(fields []api.Word) (api.Int, bool) {
	if len(fields) == 0 {
		return api.Int{}, false
	}
	sign, ok := numberUpTo(1, fields[0])
	if !ok {
		return api.Int{}, false
	}
	x := api.Int{Neg: sign == 1}
	for _, w := range fields[1:] {
		limb, ok := numberUpTo(math.MaxUint32, w)
		if !ok {
			return api.Int{}, false
		}
		x.Mag = append(x.Mag, uint32(limb))
	}
	return x, limbs.Good(x)
}
