// Package limbs is layer 1: integers of at most api.MaxLimbs limbs of 32 bits. See shared/doc/01-limbs.md.
//
// An integer that is not good is refused at each door (ErrArg, or zero values), so that the inner functions work on short rows without noughts at their ends.
package limbs

import (
	"slices"

	"athanor/api"
)

// Good tells whether an integer is good: few enough limbs, no nought at their end, no sign on nought.
func Good(x api.Int) bool {
	n := len(x.Mag)
	if n == 0 {
		return !x.Neg
	}
	return n <= api.MaxLimbs && x.Mag[n-1] != 0
}

// From makes an integer.
func From(n int64) api.Int {
	m := uint64(n)
	if n < 0 {
		m = -m // wraps round to the right size for the least number, too, which has no opposite
	}
	return whole(n < 0, []uint32{uint32(m), uint32(m >> 32)})
}

// To tells an integer of 64 bits with a sign.
func To(x api.Int) (int64, bool) {
	if !Good(x) || len(x.Mag) > 2 {
		return 0, false
	}
	var m uint64
	for i, limb := range x.Mag {
		m |= uint64(limb) << (32 * i)
	}
	const edge = 1 << 63 // below nought there is one number more than above it
	switch {
	case x.Neg && m <= edge:
		return int64(-m), true
	case !x.Neg && m < edge:
		return int64(m), true
	}
	return 0, false
}

// Cmp compares two: -1, 0, 1.
func Cmp(a, b api.Int) int {
	switch {
	case !Good(a) || !Good(b):
		return 0
	case a.Neg != b.Neg:
		return sign(a.Neg)
	}
	return sign(a.Neg) * compareRows(a.Mag, b.Mag)
}

// Neg turns the sign.
func Neg(x api.Int) api.Int {
	if !Good(x) {
		return api.Int{}
	}
	return whole(!x.Neg, slices.Clone(x.Mag))
}

// Add adds; ErrBig, if the sum has too many limbs.
func Add(a, b api.Int) (api.Int, api.Errno) {
	if !Good(a) || !Good(b) {
		return api.Int{}, api.ErrArg
	}
	switch {
	case a.Neg == b.Neg:
		return fitting(a.Neg, addRows(a.Mag, b.Mag))
	case compareRows(a.Mag, b.Mag) < 0:
		return fitting(b.Neg, subRows(b.Mag, a.Mag))
	}
	return fitting(a.Neg, subRows(a.Mag, b.Mag))
}

// Sub takes away; ErrBig, if the difference has too many limbs.
func Sub(a, b api.Int) (api.Int, api.Errno) {
	if !Good(a) || !Good(b) {
		return api.Int{}, api.ErrArg
	}
	return Add(a, Neg(b))
}

// Mul multiplies; ErrBig, if the product has too many limbs.
func Mul(a, b api.Int) (api.Int, api.Errno) {
	if !Good(a) || !Good(b) {
		return api.Int{}, api.ErrArg
	}
	return fitting(a.Neg != b.Neg, mulRows(a.Mag, b.Mag))
}

// Div divides towards nought: the quotient, and the rest with a's sign; ErrZero, if b is nought.
func Div(a, b api.Int) (api.Int, api.Int, api.Errno) {
	switch {
	case !Good(a) || !Good(b):
		return api.Int{}, api.Int{}, api.ErrArg
	case len(b.Mag) == 0:
		return api.Int{}, api.Int{}, api.ErrZero
	}
	quotient, rest := divRows(a.Mag, b.Mag)
	return whole(a.Neg != b.Neg, quotient), whole(a.Neg, rest), api.OK
}

// sign is the sign as a number.
func sign(neg bool) int {
	if neg {
		return -1
	}
	return 1
}

// whole makes an integer of a row that nobody else holds, without noughts at its end and without a sign on nought.
func whole(neg bool, row []uint32) api.Int {
	row = trim(row)
	if len(row) == 0 {
		return api.Int{}
	}
	return api.Int{Neg: neg, Mag: row}
}

// fitting is whole, but refuses what has too many limbs.
func fitting(neg bool, row []uint32) (api.Int, api.Errno) {
	x := whole(neg, row)
	if len(x.Mag) > api.MaxLimbs {
		return api.Int{}, api.ErrBig
	}
	return x, api.OK
}
