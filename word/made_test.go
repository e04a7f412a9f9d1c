package word_test

import (
	"testing"

	"athanor/api"
	"athanor/word"
)

// Promise 6.1: what is made, bit by bit.

// They are constants: else this would not be built.
const together api.Word = word.Null + word.False + word.True + word.Eof + word.Void + word.Unset

func TestConstants(t *testing.T) {
	want := []api.Word{2, 10, 18, 26, 34, 42}
	for i, w := range constants() {
		if w != want[i] {
			t.Errorf("constant %d is %d, want %d", i, w, want[i])
		}
	}
	if together != 132 {
		t.Errorf("the constants together are %d", together)
	}
}

func TestBool(t *testing.T) {
	if yes, no := word.Bool(true), word.Bool(false); yes != 18 || no != 10 {
		t.Errorf("true is %d, false is %d", yes, no)
	}
}

func TestMade(t *testing.T) {
	for _, c := range []struct {
		what string
		n    int64
		want api.Word
	}{
		{sayNumber, 0, 0}, {sayNumber, 1, 8}, {sayNumber, 5, 40}, {sayNumber, -1, 0xfffffffffffffff8}, {sayNumber, -5, 0xffffffffffffffd8},
		{sayNumber, 1<<60 - 1, 0x7ffffffffffffff8}, {sayNumber, -1 << 60, 0x8000000000000000},
		{sayPlace, 0, 1}, {sayPlace, 1, 9}, {sayPlace, 3, 25}, {sayPlace, 1<<40 - 1, 0x7fffffffff9}, {sayPlace, 1 << 40, 0x80000000001},
		{sayLetter, 0, 0x32}, {sayLetter, 'A', 0x4132}, {sayLetter, 'é', 0xe932}, {sayLetter, 0xd7ff, 0xd7ff32}, {sayLetter, 0xe000, 0xe00032}, {sayLetter, 0x10ffff, 0x10ffff32},
		{sayName, 0, 0x3a}, {sayName, 1, 0x13a}, {sayName, 1000, 0x3e83a}, {sayName, 1 << 30, 0x400000003a},
		{sayPrim, 0, 0x42}, {sayPrim, 1, 0x142}, {sayPrim, api.PrLoad, 0x7f42}, {sayPrim, 1 << 30, 0x4000000042},
		{saySpecial, 0, 0x4a}, {saySpecial, 1, 0x14a}, {saySpecial, api.SpRules, 0x1d4a}, {saySpecial, 1 << 30, 0x400000004a},
	} {
		for _, m := range makers() {
			if m.what != c.what {
				continue
			}
			if w, ok := m.make(c.n); w != c.want || !ok {
				t.Errorf("the %s %d is %#x, %v, want %#x", c.what, c.n, w, ok, c.want)
			}
		}
	}
}

func TestMadeHeads(t *testing.T) {
	for _, c := range []struct {
		kind, size int
		want       api.Word
	}{
		{1, 0, 0xf}, {1, 1, 0x80f}, {3, 7, 0x381f}, {api.TTable, 2, 0x10b7}, {255, 0, 0x7ff},
		{1, 1 << 40, 0x800000000000f}, {255, 1<<40 - 1, 0x7ffffffffffff}, {255, 1 << 40, 0x80000000007ff},
	} {
		if w, ok := word.Head(c.kind, c.size); w != c.want || !ok {
			t.Errorf("the head of %d, %d is %#x, %v, want %#x", c.kind, c.size, w, ok, c.want)
		}
	}
}

// What is made says, by the chapter's table, just what it was made of; what is out of bounds is 0 and false.
func TestMadeOfAll(t *testing.T) {
	for _, c := range makers() {
		made := 0
		for _, n := range numbers() {
			w, ok := c.make(n)
			if !c.makes(n) {
				if w != 0 || ok {
					t.Fatalf("the %s %d is %#x, %v", c.what, n, w, ok)
				}
				continue
			}
			made++
			if got, fine := says(w); !ok || !fine || got != (said{what: c.what, n: n}) {
				t.Fatalf("the %s %d is %#x, %v, which says %v", c.what, n, w, ok, got)
			}
		}
		if made < 100 {
			t.Errorf("only %d of kind %s", made, c.what)
		}
	}
}

func TestEveryLetter(t *testing.T) {
	for n := -0x100; n <= 0x110100; n++ {
		w, ok := word.Char(n)
		none := n < 0 || n > 0x10ffff || 0xd800 <= n && n <= 0xdfff
		if ok == none || none && w != 0 || !none && w != api.Word(n*256+50) {
			t.Fatalf("letter %#x is %#x, %v", n, w, ok)
		}
		back, fine := word.Letter(api.Word(n)<<8 | 0x32)
		if fine == none || none && back != 0 || !none && back != n {
			t.Fatalf("letter %#x is told as %#x, %v", n, back, fine)
		}
	}
}

func TestEveryType(t *testing.T) {
	for kind := -300; kind <= 600; kind++ {
		for _, size := range []int{0, 1, 2, 1000, 1<<40 - 1, 1 << 40} {
			w, ok := word.Head(kind, size)
			none := kind < 1 || kind > 255
			if ok == none || none && w != 0 || !none && w != api.Word(size*2048+kind*8+7) {
				t.Fatalf("the head of %d, %d is %#x, %v", kind, size, w, ok)
			}
		}
	}
}
