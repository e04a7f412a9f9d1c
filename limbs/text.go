package limbs

import (
	"slices"

	"athanor/api"
)

const (
	leastRadix = 2
	mostRadix  = 36
	digits     = "0123456789abcdefghijklmnopqrstuvwxyz"
)

// Print tells the digits; ErrArg, if radix is not from 2 to 36.
func Print(x api.Int, radix int) (string, api.Errno) {
	if !isRadix(radix) || !Good(x) {
		return "", api.ErrArg
	}
	if len(x.Mag) == 0 {
		return "0", api.OK
	}
	var text []byte
	for row := slices.Clone(x.Mag); len(row) > 0; row = trim(row) {
		text = append(text, digits[divSmall(row, uint32(radix))])
	}
	if x.Neg {
		text = append(text, '-')
	}
	slices.Reverse(text)
	return string(text), api.OK
}

// Parse reads what Print tells; ErrArg of the radix, ErrForm of a text that is no integer, ErrBig of one with too many limbs.
func Parse(s string, radix int) (api.Int, api.Errno) {
	if !isRadix(radix) {
		return api.Int{}, api.ErrArg
	}
	neg, rest := cutSign(s)
	if !allDigits(rest, radix) {
		return api.Int{}, api.ErrForm
	}
	row, ok := rowOf(rest, radix)
	if !ok {
		return api.Int{}, api.ErrBig
	}
	return whole(neg, row), api.OK
}

// isRadix tells whether there are digits for it.
func isRadix(radix int) bool { return leastRadix <= radix && radix <= mostRadix }

// cutSign takes a sign off the front, if there is one, and tells whether it is a minus.
func cutSign(s string) (bool, string) {
	if s != "" && (s[0] == '+' || s[0] == '-') {
		return s[0] == '-', s[1:]
	}
	return false, s
}

// allDigits tells whether a text is one digit of that radix, or more.
func allDigits(s string, radix int) bool {
	for i := 0; i < len(s); i++ {
		if digitOf(s[i]) >= radix {
			return false
		}
	}
	return s != ""
}

// digitOf is a digit's number; mostRadix, which is above all digits, for what is none.
func digitOf(c byte) int {
	switch {
	case '0' <= c && c <= '9':
		return int(c - '0')
	case 'a' <= c && c <= 'z':
		return int(c-'a') + 10
	case 'A' <= c && c <= 'Z':
		return int(c-'A') + 10
	}
	return mostRadix
}

// rowOf is the row that digits say; false, as soon as it has too many limbs: more digits make it only greater.
func rowOf(s string, radix int) ([]uint32, bool) {
	var row []uint32
	for i := 0; i < len(s); i++ {
		carry := mulSmall(row, uint32(radix), uint32(digitOf(s[i])))
		if carry == 0 {
			continue
		}
		if len(row) == api.MaxLimbs {
			return nil, false
		}
		row = append(row, carry)
	}
	return row, true
}
