package arith_test

import (
	"math/big"

	"athanor/api"
	"athanor/arith"
)

// The chapter written out a second time, with the library's integers.

// reckoned is what an operation makes of two integers; nil beside an error.
func reckoned(op int, a, b *big.Int) (*big.Int, api.Errno) {
	if op < 1 || op > 6 {
		return nil, api.ErrArg
	}
	if op >= arith.Quotient && b.Sign() == 0 {
		return nil, api.ErrZero
	}
	out := new(big.Int)
	switch op {
	case arith.Plus:
		out.Add(a, b)
	case arith.Minus:
		out.Sub(a, b)
	case arith.Times:
		out.Mul(a, b)
	case arith.Quotient:
		out.Quo(a, b)
	case arith.Remainder:
		out.Rem(a, b)
	case arith.Modulo: // a, less b as often as it is in it, cut off downwards
		out.Sub(a, new(big.Int).Mul(b, floor(a, b)))
	}
	if out.BitLen() > 32*api.MaxLimbs {
		return nil, api.ErrBig
	}
	return out, api.OK
}

// floor is the quotient, cut off downwards.
func floor(a, b *big.Int) *big.Int {
	quotient, rest := new(big.Int).QuoRem(a, b, new(big.Int))
	if rest.Sign()*b.Sign() < 0 {
		quotient.Sub(quotient, big.NewInt(1))
	}
	return quotient
}
