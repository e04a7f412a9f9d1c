package limbs

import (
	"cmp"
	"math"
	"math/bits"
	"slices"
)

// Rows are limbs of 32 bits, the lowest first. What is handed in is never written to, but where a function says so.

// trim cuts off the noughts at the end. The capacity is cut, too: nothing that is handed out may reach the limbs behind its end.
func trim(row []uint32) []uint32 {
	n := len(row)
	for n > 0 && row[n-1] == 0 {
		n--
	}
	return row[:n:n]
}

// compareRows compares two rows that have no noughts at their ends.
func compareRows(a, b []uint32) int {
	if len(a) != len(b) {
		return cmp.Compare(len(a), len(b))
	}
	for i := len(a) - 1; i >= 0; i-- {
		if a[i] != b[i] {
			return cmp.Compare(a[i], b[i])
		}
	}
	return 0
}

// addRows is the sum.
func addRows(a, b []uint32) []uint32 {
	if len(a) < len(b) {
		a, b = b, a
	}
	sum := make([]uint32, len(a)+1)
	copy(sum, a)
	addInto(sum, b)
	return sum
}

// addInto adds b to row, in place; what is carried out of row is dropped.
func addInto(row, b []uint32) {
	var carry uint32
	for i := range row {
		var limb uint32
		if i < len(b) {
			limb = b[i]
		}
		row[i], carry = bits.Add32(row[i], limb, carry)
	}
}

// subRows is a less b; b is not above a.
func subRows(a, b []uint32) []uint32 {
	rest := slices.Clone(a)
	var borrow uint32
	for i := range rest {
		var limb uint32
		if i < len(b) {
			limb = b[i]
		}
		rest[i], borrow = bits.Sub32(rest[i], limb, borrow)
	}
	return rest
}

// mulRows is the product.
func mulRows(a, b []uint32) []uint32 {
	product := make([]uint32, len(a)+len(b))
	for i, x := range a {
		var carry uint64
		for j, y := range b {
			t := uint64(x)*uint64(y) + uint64(product[i+j]) + carry
			product[i+j], carry = uint32(t), t>>32
		}
		product[i+len(b)] = uint32(carry)
	}
	return product
}

// mulSmall multiplies row by a small number and adds another, in place; what is carried out is told.
func mulSmall(row []uint32, factor, more uint32) uint32 {
	carry := uint64(more)
	for i, limb := range row {
		t := uint64(limb)*uint64(factor) + carry
		row[i], carry = uint32(t), t>>32
	}
	return uint32(carry)
}

// divSmall divides row by a small number that is not 0, in place; the rest is told.
func divSmall(row []uint32, divisor uint32) uint32 {
	var rest uint32
	for i := len(row) - 1; i >= 0; i-- {
		row[i], rest = bits.Div32(rest, row[i], divisor)
	}
	return rest
}

// divRows is the quotient and the rest; b has no noughts at its end, and is not nought.
func divRows(a, b []uint32) ([]uint32, []uint32) {
	if compareRows(a, b) < 0 {
		return nil, slices.Clone(a)
	}
	if len(b) == 1 {
		quotient := slices.Clone(a)
		rest := divSmall(quotient, b[0])
		return quotient, []uint32{rest}
	}
	return divLong(a, b)
}

// divLong divides limb by limb from the top, as by hand. Both are shifted first, so that the divisor's highest bit is set: then a limb guessed from the highest ones is at most one too great.
func divLong(a, b []uint32) ([]uint32, []uint32) {
	shift := bits.LeadingZeros32(b[len(b)-1])
	divisor := shiftUp(b, shift)[:len(b)]
	rest := shiftUp(a, shift)
	quotient := make([]uint32, len(a)-len(b)+1)
	for i := len(quotient) - 1; i >= 0; i-- {
		part := rest[i : i+len(b)+1]
		guess := guessLimb(part, divisor)
		if takeOff(part, divisor, guess) {
			guess--
			addInto(part, divisor)
		}
		quotient[i] = guess
	}
	return quotient, shiftDown(rest[:len(b)], shift)
}

// guessLimb guesses how often the divisor (two limbs at least) is in part, from the highest limbs.
func guessLimb(part, divisor []uint32) uint32 {
	n := len(divisor)
	high, next := uint64(divisor[n-1]), uint64(divisor[n-2])
	top := uint64(part[n])<<32 | uint64(part[n-1])
	guess, rest := top/high, top%high
	for guess > math.MaxUint32 || guess*next > rest<<32|uint64(part[n-2]) {
		guess--
		rest += high
		if rest > math.MaxUint32 {
			break
		}
	}
	return uint32(guess)
}

// takeOff takes times the divisor off part, in place, and tells whether that was too much.
func takeOff(part, divisor []uint32, times uint32) bool {
	var carry uint64
	var borrow uint32
	for i := range part {
		if i < len(divisor) {
			carry += uint64(divisor[i]) * uint64(times)
		}
		part[i], borrow = bits.Sub32(part[i], uint32(carry), borrow)
		carry >>= 32
	}
	return borrow != 0
}

// shiftUp shifts by less than a limb, into a row that is one limb longer.
func shiftUp(row []uint32, shift int) []uint32 {
	out := make([]uint32, len(row)+1)
	for i, limb := range row {
		t := uint64(limb) << shift
		out[i] |= uint32(t)
		out[i+1] = uint32(t >> 32)
	}
	return out
}

// shiftDown shifts back by less than a limb.
func shiftDown(row []uint32, shift int) []uint32 {
	out := make([]uint32, len(row))
	var above uint32
	for i := len(row) - 1; i >= 0; i-- {
		t := (uint64(above)<<32 | uint64(row[i])) >> shift
		out[i], above = uint32(t), row[i]
	}
	return out
}
