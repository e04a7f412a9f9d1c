package bigs_test

import (
	"math"
	"slices"
	"testing"

	"athanor/api"
	"athanor/bigs"
	"athanor/heap"
	"athanor/limbs"
	"athanor/word"
)

// cases are integers, and the words of their objects; none, if they need none.
func cases(t *testing.T) map[string][]api.Word {
	t.Helper()
	most, err := limbs.Print(api.Int{Neg: true, Mag: slices.Repeat([]uint32{math.MaxUint32}, api.MaxLimbs)}, 10)
	if err != api.OK {
		t.Fatal(err)
	}
	return map[string][]api.Word{
		"0": nil, "-1": nil, "1152921504606846975": nil, "-1152921504606846976": nil,
		"1152921504606846976":  {7 + 5*8 + 3*2048, 0, 0, 1 << 28 * 8},
		"-1152921504606846977": {7 + 5*8 + 3*2048, 8, 8, 1 << 28 * 8},
		"18446744073709551616": {7 + 5*8 + 4*2048, 0, 0, 0, 8},
		most:                   slices.Concat([]api.Word{7 + 5*8 + 41*2048, 8}, slices.Repeat([]api.Word{math.MaxUint32 * 8}, api.MaxLimbs)),
	}
}

func TestLayAndRead(t *testing.T) {
	for digits, want := range cases(t) {
		x, _ := limbs.Parse(digits, 10)
		h, _ := heap.New(max(len(want), 1))
		w, err := bigs.Lay(h, x)
		var got []api.Word
		for i := range h.Used() {
			got = append(got, h.Word(i))
		}
		if err != api.OK || !slices.Equal(got, want) || bigs.Need(x) != len(want) {
			t.Errorf("%s: %d, %#x, need %d", digits, err, got, bigs.Need(x))
		}
		own, isWord := bigs.Word(x)
		if isWord != (want == nil) || isWord && own != w {
			t.Errorf("%s: word %#x, %t", digits, own, isWord)
		}
		back, ok := bigs.Read(h, w)
		if ok == isWord || ok && limbs.Cmp(back, x) != 0 {
			t.Errorf("%s: read %v, %t", digits, back, ok)
		}
		if w, err := bigs.Lay(nil, x); isWord != (err == api.OK) || !isWord && (w != 0 || err != api.ErrFull) {
			t.Errorf("%s: no heap: %#x, %d", digits, w, err)
		}
	}
}

func TestNoIntegers(t *testing.T) {
	for _, fields := range [][]api.Word{nil, {0}, {8}, {0, 8}, {0, 0, 1 << 28 * 8, 0}, {16, 0, 1 << 28 * 8}, {word.True, 0, 1 << 28 * 8}, {0, 8, 1 << 32 * 8}, {0, word.Null, 8, 8}, make([]api.Word, 100), slices.Repeat([]api.Word{8}, 42)} {
		h, _ := heap.New(200)
		p, _ := h.Alloc(api.TBig, fields...)
		if x, ok := bigs.Read(h, p); ok || x.Neg || x.Mag != nil {
			t.Errorf("%#x: %v, %t", fields, x, ok)
		}
	}
	for _, x := range []api.Int{{Neg: true}, {Mag: []uint32{0}}, {Mag: make([]uint32, 41)}, {Mag: slices.Repeat([]uint32{1}, 41)}} {
		h, _ := heap.New(200)
		w, err := bigs.Lay(h, x)
		if _, ok := bigs.Word(x); ok || bigs.Need(x) != 0 || w != 0 || err != api.ErrArg || h.Used() != 0 {
			t.Errorf("%v: %#x, %d", x, w, err)
		}
	}
}
