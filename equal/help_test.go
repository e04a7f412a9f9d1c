package equal_test

import (
	"math"
	"math/big"
	"slices"
	"testing"

	"athanor/api"
	"athanor/equal"
	"athanor/heap"
	"athanor/read"
	"athanor/store"
	"athanor/word"
)

// The words, by multiplication.

func fix(n int) api.Word         { return api.Word(n) * 8 }
func pointer(at int) api.Word    { return api.Word(at)*8 + 1 }
func charWord(n int) api.Word    { return api.Word(n)*256 + 6*8 + 2 }
func nameWord(n int) api.Word    { return api.Word(n)*256 + 7*8 + 2 }
func primWord(n int) api.Word    { return api.Word(n)*256 + 8*8 + 2 }
func specialWord(n int) api.Word { return api.Word(n)*256 + 9*8 + 2 }

func head(kind, size int) api.Word { return api.Word(size)*2048 + api.Word(kind)*8 + 7 }

// plain are words of every kind that say no places and are no heads, no two of them the same.
func plain() []api.Word {
	return []api.Word{
		fix(0), fix(1), fix(-1), fix(5), fix(1<<32 - 1), fix(1 << 32), fix(1<<60 - 1), fix(-1 << 60),
		word.Null, word.False, word.True, word.Eof, word.Void, word.Unset,
		charWord(0), charWord('a'), charWord(5), charWord(0x10ffff), nameWord(0), nameWord(5), nameWord(1 << 30),
		primWord(0), primWord(5), primWord(1 << 30), specialWord(0), specialWord(5), specialWord(1 << 30),
	}
}

// silent are words that say nothing; some are tagged as places, but past all places.
func silent() []api.Word {
	return []api.Word{
		3, 4, 5, 6, 7, 5*8 + 3, 5*8 + 4, 5*8 + 5, 5*8 + 6, 7 + 5*2048, math.MaxUint64, charWord(0xd800), charWord(0x110000), nameWord(1<<30 + 1), word.Null + 256, 10*8 + 2,
		pointer(1<<40 + 1), 1<<63 | 1, math.MaxUint64 - 6,
	}
}

// heads may be asked of, but are no fields.
func heads() []api.Word {
	return []api.Word{head(1, 0), head(1, 2), head(5, 4), head(22, 5), head(23, 0), head(255, 0), head(2, 1<<40), head(255, 1<<40)}
}

// nowhere are words that say places, but none of a heap.
func nowhere() []api.Word {
	return []api.Word{pointer(api.MaxHeap), pointer(1 << 30), pointer(1<<40 - 1), pointer(1 << 40)}
}

// likeTypes are the types whose objects may be alike by their fields.
func likeTypes() []int { return []int{api.TPair, api.TVector, api.TString, api.TBytes} }

func mustNew(t *testing.T, n int) *heap.Heap {
	t.Helper()
	h, err := heap.New(n)
	if h == nil || err != api.OK {
		t.Fatalf("New(%d): %v, %d", n, h, err)
	}
	return h
}

func mustAlloc(t *testing.T, h *heap.Heap, kind int, fields ...api.Word) api.Word {
	t.Helper()
	p, err := h.Alloc(kind, fields...)
	if err != api.OK {
		t.Fatalf("Alloc(%d, %d fields): %d", kind, len(fields), err)
	}
	return p
}

func mustSet(t *testing.T, h *heap.Heap, p api.Word, i int, w api.Word) {
	t.Helper()
	if err := h.Set(p, 0, i, w); err != api.OK {
		t.Fatalf("Set(%#x, %d, %#x): %d", p, i, w, err)
	}
}

// put lays what a source says, and tells its roots; each call lays it anew.
func put(t *testing.T, h *heap.Heap, names *store.Names, source string) []api.Word {
	t.Helper()
	g, err, place := read.Read([]byte(source))
	if err != api.OK {
		t.Fatalf("%s: %d at %d", source, err, place)
	}
	roots, err := store.Put(h, names, g)
	if err != api.OK {
		t.Fatalf("%s: %d", source, err)
	}
	return roots
}

// isBig tells whether a word says a TBig.
func isBig(h *heap.Heap, p api.Word) bool {
	kind, _ := h.Kind(p)
	return kind == api.TBig
}

// row is all words that are used.
func row(h *heap.Heap) []api.Word {
	var out []api.Word
	for i := range h.Used() {
		out = append(out, h.Word(i))
	}
	return out
}

// expect holds what Eqv and Equal say of two words, whichever is named first.
func expect(t *testing.T, h *heap.Heap, what string, a, b api.Word, eqv, alike bool) {
	t.Helper()
	for range 2 {
		if got := equal.Eqv(h, a, b); got != eqv {
			t.Fatalf("%s: Eqv(%#x, %#x) is %t", what, a, b, got)
		}
		if got := equal.Equal(h, a, b); got != alike {
			t.Fatalf("%s: Equal(%#x, %#x) is %t", what, a, b, got)
		}
		a, b = b, a
	}
}

// expectBoth holds that two words are the same thing.
func expectBoth(t *testing.T, h *heap.Heap, what string, a, b api.Word) {
	t.Helper()
	expect(t, h, what, a, b, true, true)
}

// expectAlike holds that two words are alike, but not the same thing.
func expectAlike(t *testing.T, h *heap.Heap, what string, a, b api.Word) {
	t.Helper()
	expect(t, h, what, a, b, false, true)
}

// expectApart holds that two words are not even alike.
func expectApart(t *testing.T, h *heap.Heap, what string, a, b api.Word) {
	t.Helper()
	expect(t, h, what, a, b, false, false)
}

// bigFields are the sign and the limbs of an integer, by division, whether it needs an object or not.
func bigFields(x *big.Int) []api.Word {
	out := []api.Word{fix(0)}
	if x.Sign() < 0 {
		out[0] = fix(1)
	}
	for rest := new(big.Int).Abs(x); rest.Sign() > 0; {
		limb := new(big.Int)
		rest.DivMod(rest, big.NewInt(1<<32), limb)
		out = append(out, fix(int(limb.Int64())))
	}
	return out
}

// power is a power of two.
func power(bits int) *big.Int { return new(big.Int).Lsh(big.NewInt(1), uint(bits)) }

func plus(x *big.Int, n int64) *big.Int { return new(big.Int).Add(x, big.NewInt(n)) }

// beyond are integers that need an object, no two of them the same: at Fix's bounds, at the bounds of limbs, of all lengths, of both signs.
func beyond() []*big.Int {
	out := []*big.Int{power(60), plus(power(60), 1), plus(power(61), -1)}
	for _, bits := range []int{61, 62, 63, 64, 95, 96, 97, 128, 1000, 1279} {
		out = append(out, plus(power(bits), -1), power(bits), plus(power(bits), 1))
	}
	out = append(out, plus(power(1280), -2), plus(power(1280), -1))
	for _, x := range slices.Clone(out) {
		out = append(out, new(big.Int).Neg(plus(x, 0)))
	}
	out = slices.DeleteFunc(out, func(x *big.Int) bool { return isFixed(x) || x.BitLen() > 32*api.MaxLimbs })
	out = append(out, plus(new(big.Int).Neg(power(60)), -1))
	slices.SortFunc(out, (*big.Int).Cmp)
	return slices.CompactFunc(out, func(x, y *big.Int) bool { return x.Cmp(y) == 0 })
}

// isFixed tells whether an integer is in Fix's bounds.
func isFixed(x *big.Int) bool {
	return new(big.Int).Neg(power(60)).Cmp(x) <= 0 && x.Cmp(power(60)) < 0
}
