package word_test

import (
	"testing"

	"athanor/api"
	"athanor/word"
)

// Promise 6.2: what is told of words.

func TestTold(t *testing.T) {
	for _, c := range []struct {
		w    api.Word
		want said
	}{
		{0, said{what: sayNumber}}, {40, said{what: sayNumber, n: 5}}, {0xffffffffffffffd8, said{what: sayNumber, n: -5}},
		{0x7ffffffffffffff8, said{what: sayNumber, n: 1<<60 - 1}}, {0x8000000000000000, said{what: sayNumber, n: -1 << 60}}, {0xfffffffffffffff8, said{what: sayNumber, n: -1}},
		{1, said{what: sayPlace}}, {25, said{what: sayPlace, n: 3}}, {0x80000000001, said{what: sayPlace, n: 1 << 40}},
		{2, said{what: sayConstant}}, {10, said{what: sayConstant, n: 1}}, {18, said{what: sayConstant, n: 2}}, {26, said{what: sayConstant, n: 3}}, {34, said{what: sayConstant, n: 4}}, {42, said{what: sayConstant, n: 5}},
		{0x32, said{what: sayLetter}}, {0x4132, said{what: sayLetter, n: 'A'}}, {0xd7ff32, said{what: sayLetter, n: 0xd7ff}}, {0xe00032, said{what: sayLetter, n: 0xe000}}, {0x10ffff32, said{what: sayLetter, n: 0x10ffff}},
		{0x3a, said{what: sayName}}, {0x43a, said{what: sayName, n: 4}}, {0x400000003a, said{what: sayName, n: 1 << 30}},
		{0x42, said{what: sayPrim}}, {0x442, said{what: sayPrim, n: 4}}, {0x4000000042, said{what: sayPrim, n: 1 << 30}},
		{0x4a, said{what: saySpecial}}, {0x44a, said{what: saySpecial, n: 4}}, {0x400000004a, said{what: saySpecial, n: 1 << 30}},
		{0xf, said{what: sayHead, n: 1}}, {0x381f, said{what: sayHead, n: 3, size: 7}}, {0x7ff, said{what: sayHead, n: 255}}, {0x800000000000f, said{what: sayHead, n: 1, size: 1 << 40}}, {0x80000000007ff, said{what: sayHead, n: 255, size: 1 << 40}},
	} {
		if all := allTold(c.w); len(all) != 1 || all[0] != c.want {
			t.Errorf("%#x says %v, want %v", c.w, all, c.want)
		}
		checkTold(t, c.w)
	}
}

// Beside a false there is 0.
func TestToldOfAnother(t *testing.T) {
	if n, ok := word.Int(25); n != 0 || ok {
		t.Errorf("25 is the number %d, %v", n, ok)
	}
	if n, ok := word.At(40); n != 0 || ok {
		t.Errorf("40 is the place %d, %v", n, ok)
	}
	if n, ok := word.Letter(0x43a); n != 0 || ok {
		t.Errorf("a name is the letter %d, %v", n, ok)
	}
	if kind, size, ok := word.HeadOf(25); kind != 0 || size != 0 || ok {
		t.Errorf("25 is the head of %d, %d, %v", kind, size, ok)
	}
}

func TestToldOfAll(t *testing.T) {
	for _, w := range words() {
		checkTold(t, w)
	}
}
