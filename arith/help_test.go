package arith_test

import (
	"math"
	"math/big"
	"math/rand"
	"slices"
	"testing"

	"athanor/api"
	"athanor/arith"
	"athanor/heap"
	"athanor/limbs"
	"athanor/word"
)

// The words, by multiplication.

func fix(n int) api.Word         { return api.Word(n) * 8 }
func pointer(at int) api.Word    { return api.Word(at)*8 + 1 }
func charWord(n int) api.Word    { return api.Word(n)*256 + 6*8 + 2 }
func nameWord(n int) api.Word    { return api.Word(n)*256 + 7*8 + 2 }
func primWord(n int) api.Word    { return api.Word(n)*256 + 8*8 + 2 }
func specialWord(n int) api.Word { return api.Word(n)*256 + 9*8 + 2 }

func head(kind, size int) api.Word { return api.Word(size)*2048 + api.Word(kind)*8 + 7 }

// noNumbers are words of every kind but numbers: none says a place of a heap.
func noNumbers() []api.Word {
	return []api.Word{
		word.Null, word.False, word.True, word.Eof, word.Void, word.Unset,
		charWord(0), charWord('1'), charWord(0x10ffff), nameWord(0), nameWord(5), nameWord(1 << 30),
		primWord(0), primWord(5), primWord(1 << 30), specialWord(0), specialWord(5), specialWord(1 << 30),
		head(1, 0), head(5, 0), head(5, 4), head(22, 5), head(23, 0), head(255, 0), head(2, 1<<40), head(255, 1<<40),
		3, 4, 5, 6, 7, 5*8 + 3, 5*8 + 4, 5*8 + 5, 5*8 + 6, 7 + 5*2048, math.MaxUint64, charWord(0xd800), charWord(0x110000), nameWord(1<<30 + 1), word.Null + 256, 10*8 + 2,
		pointer(api.MaxHeap), pointer(1 << 30), pointer(1 << 40), pointer(1<<40 + 1), 1<<63 | 1, math.MaxUint64 - 6,
	}
}

func ops() []int {
	return []int{arith.Plus, arith.Minus, arith.Times, arith.Quotient, arith.Remainder, arith.Modulo}
}

// noOps are no operations.
func noOps() []int { return []int{0, -1, 7, 8, 100, 1 << 40, math.MinInt, math.MaxInt} }

func mustNew(t *testing.T, n int) *heap.Heap {
	t.Helper()
	h, err := heap.New(n)
	if h == nil || err != api.OK {
		t.Fatalf("New(%d): %v, %d", n, h, err)
	}
	return h
}

func mustAlloc(t *testing.T, h *heap.Heap, kind int, fields ...api.Word) api.Word {
	t.Helper()
	p, err := h.Alloc(kind, fields...)
	if err != api.OK {
		t.Fatalf("Alloc(%d, %d fields): %d", kind, len(fields), err)
	}
	return p
}

func mustLay(t *testing.T, h *heap.Heap, x *big.Int) api.Word {
	t.Helper()
	w, err := arith.Lay(h, fromBig(x))
	if err != api.OK {
		t.Fatalf("Lay(%v): %d", x, err)
	}
	return w
}

// row is all words that are used.
func row(h *heap.Heap) []api.Word {
	var out []api.Word
	for i := range h.Used() {
		out = append(out, h.Word(i))
	}
	return out
}

// expectRow holds that nothing of a heap was changed.
func expectRow(t *testing.T, what string, h *heap.Heap, want []api.Word) {
	t.Helper()
	if got := row(h); !slices.Equal(got, want) {
		t.Fatalf("%s: %#x, and was %#x", what, got, want)
	}
}

// Integers, by the library's.

func toBig(x api.Int) *big.Int {
	out := new(big.Int)
	for _, limb := range slices.Backward(x.Mag) {
		out.Lsh(out, 32).Or(out, big.NewInt(int64(limb)))
	}
	if x.Neg {
		out.Neg(out)
	}
	return out
}

func fromBig(x *big.Int) api.Int {
	out := api.Int{Neg: x.Sign() < 0}
	for rest := new(big.Int).Abs(x); rest.Sign() > 0; {
		limb := new(big.Int)
		rest.DivMod(rest, big.NewInt(1<<32), limb)
		out.Mag = append(out.Mag, uint32(limb.Int64()))
	}
	return out
}

// bigFields are the sign and the limbs of an integer, whether it needs an object or not.
func bigFields(x *big.Int) []api.Word {
	out := []api.Word{fix(0)}
	if x.Sign() < 0 {
		out[0] = fix(1)
	}
	for _, limb := range fromBig(x).Mag {
		out = append(out, fix(int(limb)))
	}
	return out
}

// power is a power of two.
func power(bits int) *big.Int { return new(big.Int).Lsh(big.NewInt(1), uint(bits)) }

func plus(x *big.Int, n int64) *big.Int { return new(big.Int).Add(x, big.NewInt(n)) }

func minus(x *big.Int) *big.Int { return new(big.Int).Neg(x) }

// isFixed tells whether an integer is in Fix's bounds.
func isFixed(x *big.Int) bool { return minus(power(60)).Cmp(x) <= 0 && x.Cmp(power(60)) < 0 }

// need is how many words an integer's object has.
func need(x *big.Int) int {
	if isFixed(x) {
		return 0
	}
	return 2 + (x.BitLen()+31)/32
}

// random is an integer of so many limbs at most, some of them all noughts or ones.
func random(r *rand.Rand, count int) *big.Int {
	out := new(big.Int)
	for range r.Intn(count + 1) {
		limb := []int64{0, 1, 1<<32 - 1, int64(r.Uint32()), int64(r.Uint32())}[r.Intn(5)]
		out.Add(out.Lsh(out, 32), big.NewInt(limb))
	}
	if r.Intn(2) == 0 {
		out.Neg(out)
	}
	return out
}

// edges are integers of both signs, no two of them the same: nought, small ones, those at Fix's bounds, at the bounds of limbs, with the most limbs there are.
func edges() []*big.Int {
	out := []*big.Int{big.NewInt(0), big.NewInt(1), big.NewInt(2), big.NewInt(3), big.NewInt(7), plus(power(1280), -1), plus(power(1280), -2)}
	for _, bits := range []int{31, 32, 59, 60, 61, 63, 64, 95, 96, 97, 639, 640, 641, 1248, 1279} {
		out = append(out, plus(power(bits), -1), power(bits), plus(power(bits), 1))
	}
	r := rand.New(rand.NewSource(110))
	for count := 1; count <= api.MaxLimbs; count += 3 {
		out = append(out, random(r, count))
	}
	for _, x := range slices.Clone(out) {
		out = append(out, minus(x))
	}
	slices.SortFunc(out, (*big.Int).Cmp)
	return slices.CompactFunc(out, func(x, y *big.Int) bool { return x.Cmp(y) == 0 })
}

// badIntegers are not good.
func badIntegers() []api.Int {
	long := fromBig(power(32 * api.MaxLimbs))
	return []api.Int{
		{Neg: true}, {Mag: []uint32{0}}, {Neg: true, Mag: []uint32{0}}, {Mag: []uint32{1, 0}}, {Mag: []uint32{1, 2, 3, 0}}, {Neg: true, Mag: []uint32{0, 0, 0}},
		{Mag: make([]uint32, api.MaxLimbs+5)}, long, {Neg: true, Mag: long.Mag}, fromBig(power(96 * api.MaxLimbs)), {Mag: make([]uint32, 1<<20)},
	}
}

func isZero(x api.Int) bool { return !x.Neg && len(x.Mag) == 0 }

// expectInt holds that an answer is a good integer, and which.
func expectInt(t *testing.T, what string, got api.Int, want *big.Int) {
	t.Helper()
	if !limbs.Good(got) || toBig(got).Cmp(want) != 0 {
		t.Fatalf("%s: %v, want %v", what, got, want)
	}
}

// expectNumber holds that a word is a number, and which.
func expectNumber(t *testing.T, what string, h *heap.Heap, w api.Word, want *big.Int) {
	t.Helper()
	x, ok := arith.Number(h, w)
	if !ok {
		t.Fatalf("%s: %#x is no number, want %v", what, w, want)
	}
	expectInt(t, what, x, want)
}

// expectNoNumber holds that a word is none.
func expectNoNumber(t *testing.T, what string, h *heap.Heap, w api.Word) {
	t.Helper()
	if x, ok := arith.Number(h, w); ok || !isZero(x) {
		t.Fatalf("%s: Number(%#x) is %v, %t", what, w, x, ok)
	}
}
