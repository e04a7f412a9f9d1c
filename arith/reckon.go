package arith

import (
	"athanor/api"
	"athanor/heap"
	"athanor/limbs"
)

// Reckon reckons with integers.
func Reckon(op int, a, b api.Int) (api.Int, api.Errno) {
	switch op {
	case Plus:
		return limbs.Add(a, b)
	case Minus:
		return limbs.Sub(a, b)
	case Times:
		return limbs.Mul(a, b)
	case Quotient:
		quotient, _, err := limbs.Div(a, b)
		return quotient, err
	case Remainder:
		_, rest, err := limbs.Div(a, b)
		return rest, err
	case Modulo:
		return modulo(a, b)
	}
	return api.Int{}, api.ErrArg
}

// modulo is the rest that is nought or has b's sign.
func modulo(a, b api.Int) (api.Int, api.Errno) {
	_, rest, err := limbs.Div(a, b)
	if len(rest.Mag) > 0 && rest.Neg != b.Neg {
		return limbs.Add(rest, b) // which is nearer to nought than b, so it is not too big
	}
	return rest, err
}

// isOp tells whether there is such an operation.
func isOp(op int) bool { return Plus <= op && op <= Modulo }

// result is what an operation makes of two words' integers.
func result(h *heap.Heap, op int, a, b api.Word) (api.Int, api.Errno) {
	if !isOp(op) { // told ahead of what the words are
		return api.Int{}, api.ErrArg
	}
	x, y, err := both(h, a, b)
	if err != api.OK {
		return api.Int{}, err
	}
	return Reckon(op, x, y)
}

// both are two words' integers; ErrType, if one of them is no number.
func both(h *heap.Heap, a, b api.Word) (api.Int, api.Int, api.Errno) {
	x, isNumber := Number(h, a)
	y, isNumberToo := Number(h, b)
	if !isNumber || !isNumberToo {
		return api.Int{}, api.Int{}, api.ErrType
	}
	return x, y, api.OK
}
