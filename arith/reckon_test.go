package arith_test

import (
	"math/big"
	"math/rand"
	"slices"
	"testing"

	"athanor/api"
	"athanor/arith"
	"athanor/limbs"
)

// Promise 11.2: Reckon.

func TestOperationsCountOn(t *testing.T) {
	if got := ops(); !slices.Equal(got, []int{1, 2, 3, 4, 5, 6}) {
		t.Errorf("%v", got)
	}
}

// expectReckoned holds what Reckon makes of two integers.
func expectReckoned(t *testing.T, op int, a, b *big.Int) {
	t.Helper()
	got, err := arith.Reckon(op, fromBig(a), fromBig(b))
	want, wantErr := reckoned(op, a, b)
	if err != wantErr || err != api.OK && !isZero(got) {
		t.Fatalf("op %d of %v, %v: %v, error %d, want %d", op, a, b, got, err, wantErr)
	}
	if err == api.OK {
		expectInt(t, "op "+string(rune('0'+op)), got, want)
	}
}

func TestReckonOfEdges(t *testing.T) {
	for _, op := range ops() {
		for _, a := range edges() {
			for _, b := range edges() {
				expectReckoned(t, op, a, b)
			}
		}
	}
}

func TestReckonOfSmallOnes(t *testing.T) {
	for _, op := range ops() {
		for a := int64(-30); a <= 30; a++ {
			for b := int64(-30); b <= 30; b++ {
				expectReckoned(t, op, big.NewInt(a), big.NewInt(b))
			}
		}
	}
}

func TestReckonOfManyLimbs(t *testing.T) {
	r := rand.New(rand.NewSource(111))
	for range 20000 {
		a, b := random(r, 1+r.Intn(api.MaxLimbs)), random(r, 1+r.Intn(api.MaxLimbs))
		expectReckoned(t, 1+r.Intn(6), a, b)
	}
}

// The signs, written out.
func TestReckonOfSigns(t *testing.T) {
	for _, c := range []struct{ a, b, sum, difference, product, quotient, rest, modulo int64 }{
		{7, 2, 9, 5, 14, 3, 1, 1},
		{-7, 2, -5, -9, -14, -3, -1, 1},
		{7, -2, 5, 9, -14, -3, 1, -1},
		{-7, -2, -9, -5, 14, 3, -1, -1},
		{6, 3, 9, 3, 18, 2, 0, 0},
		{-6, 3, -3, -9, -18, -2, 0, 0},
		{6, -3, 3, 9, -18, -2, 0, 0},
		{-6, -3, -9, -3, 18, 2, 0, 0},
		{0, 5, 5, -5, 0, 0, 0, 0},
		{0, -5, -5, 5, 0, 0, 0, 0},
		{2, 7, 9, -5, 14, 0, 2, 2},
		{-2, 7, 5, -9, -14, 0, -2, 5},
		{2, -7, -5, 9, -14, 0, 2, -5},
		{-2, -7, -9, 5, 14, 0, -2, -2},
		{5, 5, 10, 0, 25, 1, 0, 0},
		{5, -5, 0, 10, -25, -1, 0, 0},
	} {
		for i, want := range []int64{c.sum, c.difference, c.product, c.quotient, c.rest, c.modulo} {
			got, err := arith.Reckon(1+i, limbs.From(c.a), limbs.From(c.b))
			if n, ok := limbs.To(got); err != api.OK || !ok || n != want {
				t.Errorf("op %d of %d, %d: %v, %d, want %d", 1+i, c.a, c.b, got, err, want)
			}
		}
	}
}

func TestDivisorOfNought(t *testing.T) {
	for _, op := range ops() {
		for _, a := range edges() {
			got, err := arith.Reckon(op, fromBig(a), api.Int{})
			if divides := op >= arith.Quotient; divides != (err == api.ErrZero) || divides && !isZero(got) {
				t.Fatalf("op %d of %v, 0: %v, %d", op, a, got, err)
			}
		}
	}
}

// Just too big, and just not.
func TestTooBig(t *testing.T) {
	most := plus(power(1280), -1)
	for _, c := range []struct {
		op   int
		a, b *big.Int
		want api.Errno
	}{
		{arith.Plus, most, big.NewInt(0), api.OK}, {arith.Plus, most, big.NewInt(-1), api.OK}, {arith.Plus, most, big.NewInt(1), api.ErrBig},
		{arith.Plus, minus(most), big.NewInt(-1), api.ErrBig}, {arith.Plus, most, minus(most), api.OK}, {arith.Plus, most, most, api.ErrBig},
		{arith.Minus, most, big.NewInt(1), api.OK}, {arith.Minus, most, big.NewInt(-1), api.ErrBig}, {arith.Minus, minus(most), big.NewInt(1), api.ErrBig},
		{arith.Minus, minus(most), minus(most), api.OK}, {arith.Minus, big.NewInt(0), most, api.OK}, {arith.Minus, most, minus(most), api.ErrBig},
		{arith.Times, power(640), power(639), api.OK}, {arith.Times, power(640), power(640), api.ErrBig}, {arith.Times, power(640), minus(power(640)), api.ErrBig},
		{arith.Times, most, big.NewInt(-1), api.OK}, {arith.Times, most, big.NewInt(2), api.ErrBig}, {arith.Times, most, most, api.ErrBig},
		{arith.Times, plus(power(640), 1), plus(power(640), -1), api.OK}, {arith.Times, most, big.NewInt(0), api.OK},
		{arith.Quotient, most, big.NewInt(-1), api.OK}, {arith.Remainder, most, minus(power(1279)), api.OK}, {arith.Modulo, minus(most), plus(most, -1), api.OK},
	} {
		got, err := arith.Reckon(c.op, fromBig(c.a), fromBig(c.b))
		if err != c.want || err != api.OK && !isZero(got) {
			t.Errorf("op %d of %v, %v: %v, %d, want %d", c.op, c.a, c.b, got, err, c.want)
		}
		expectReckoned(t, c.op, c.a, c.b)
	}
}

// Modulo is the rest, where that is nought or has the divisor's sign, and the divisor more where it has another one.
func TestModuloAgainstRemainder(t *testing.T) {
	same, moved, none := 0, 0, 0
	for _, a := range edges() {
		for _, b := range edges() {
			if b.Sign() == 0 {
				continue
			}
			rest, _ := arith.Reckon(arith.Remainder, fromBig(a), fromBig(b))
			modulo, err := arith.Reckon(arith.Modulo, fromBig(a), fromBig(b))
			want := toBig(rest)
			switch want.Sign() * b.Sign() {
			case 0:
				none++
			case 1:
				same++
			case -1:
				want.Add(want, b)
				moved++
			}
			if err != api.OK {
				t.Fatalf("%v modulo %v: %d", a, b, err)
			}
			expectInt(t, "modulo", modulo, want)
		}
	}
	if same < 1000 || moved < 1000 || none < 300 {
		t.Errorf("the same %d times, moved %d times, nought %d times", same, moved, none)
	}
}

func TestNoOperations(t *testing.T) {
	for _, op := range noOps() {
		for _, a := range edges() {
			if got, err := arith.Reckon(op, fromBig(a), api.Int{}); err != api.ErrArg || !isZero(got) {
				t.Fatalf("op %d of %v: %v, %d", op, a, got, err)
			}
		}
		for _, a := range badIntegers() {
			if got, err := arith.Reckon(op, a, a); err != api.ErrArg || !isZero(got) {
				t.Fatalf("op %d of what is not good: %v, %d", op, got, err)
			}
		}
	}
}

// What is handed in is neither changed nor kept: an answer is nobody else's, though it be the one that was handed in.
func TestReckonKeepsNothing(t *testing.T) {
	few := []*big.Int{big.NewInt(0), big.NewInt(1), big.NewInt(-7), power(64), minus(power(70)), plus(power(1280), -1)}
	for _, op := range ops() {
		for _, a := range few {
			for _, b := range few {
				want, err := reckoned(op, a, b)
				if err != api.OK {
					continue
				}
				x, y := withTail(fromBig(a)), withTail(fromBig(b))
				before := [2][]uint32{slices.Clone(x.Mag[:cap(x.Mag)]), slices.Clone(y.Mag[:cap(y.Mag)])}
				got, _ := arith.Reckon(op, x, y)
				expectWhole(t, before, x, y)
				kept := api.Int{Neg: got.Neg, Mag: slices.Clone(got.Mag)}
				scribble(got)
				expectWhole(t, before, x, y)
				expectInt(t, "ahead", kept, want)
				got, _ = arith.Reckon(op, x, y)
				scribble(x)
				scribble(y)
				expectInt(t, "behind", got, want)
			}
		}
	}
}

// withTail is an integer whose row has room behind its end, with marks there.
func withTail(x api.Int) api.Int {
	n := len(x.Mag)
	row := append(slices.Clone(x.Mag), 0xdead, 0xbeef, 0xdead)
	return api.Int{Neg: x.Neg, Mag: row[:n]}
}

// expectWhole holds that two rows, and what lies behind their ends, are as they were.
func expectWhole(t *testing.T, before [2][]uint32, x, y api.Int) {
	t.Helper()
	for i, row := range [2][]uint32{x.Mag, y.Mag} {
		if !slices.Equal(before[i], row[:cap(row)]) {
			t.Fatalf("%v, and was %v", row[:cap(row)], before[i])
		}
	}
}
