package word_test

import (
	"math"
	"testing"

	"athanor/api"
	"athanor/word"
)

// Promises 6.1 and 6.2: what is out of its bounds, and words that say nothing.

func TestPastTheBounds(t *testing.T) {
	for _, c := range makers() {
		for _, n := range []int64{c.least, c.least + 1, c.most - 1, c.most} {
			if w, ok := c.make(n); !ok {
				t.Errorf("the %s %d is %#x, %v", c.what, n, w, ok)
			}
		}
		for _, n := range []int64{c.least - 1, c.most + 1, math.MinInt64, math.MinInt64 + 1, math.MaxInt64 - 1, math.MaxInt64, -1 << 61, 1 << 61, 1<<61 + 5, -1<<61 - 5, 1<<62 + 5} {
			if w, ok := c.make(n); w != 0 || ok {
				t.Errorf("the %s %d is %#x, %v", c.what, n, w, ok)
			}
		}
	}
}

// Numbers that would be letters, names, places or sizes, if what is above some bits were lost.
func TestBitsAboveAreNotLost(t *testing.T) {
	for _, c := range makers() {
		for _, bits := range []int{32, 53, 56, 61, 63} {
			n := int64(5) + 1<<bits
			if c.makes(n) {
				continue
			}
			if w, ok := c.make(n); w != 0 || ok {
				t.Errorf("the %s 5 + 2^%d is %#x, %v", c.what, bits, w, ok)
			}
		}
	}
	for _, bits := range []int{53, 56, 61, 63} {
		if w, ok := word.Head(3, 5+1<<bits); w != 0 || ok {
			t.Errorf("the head of 3, 5 + 2^%d is %#x, %v", bits, w, ok)
		}
		if w, ok := word.Head(3+1<<bits, 5); w != 0 || ok {
			t.Errorf("the head of 3 + 2^%d, 5 is %#x, %v", bits, w, ok)
		}
	}
}

func TestNoHeads(t *testing.T) {
	wrong := []int{-1, -2, -8, -256, math.MinInt, math.MinInt + 1, math.MinInt32, math.MaxInt - 1, math.MaxInt, 1<<40 + 1, 1 << 41}
	for _, kind := range append([]int{0, 256, 257, 511}, wrong...) {
		for _, size := range []int{0, 1, 7, 1 << 40} {
			if w, ok := word.Head(kind, size); w != 0 || ok {
				t.Errorf("the head of %d, %d is %#x, %v", kind, size, w, ok)
			}
		}
	}
	for _, size := range wrong {
		for _, kind := range []int{0, 1, 22, 255, 256} {
			if w, ok := word.Head(kind, size); w != 0 || ok {
				t.Errorf("the head of %d, %d is %#x, %v", kind, size, w, ok)
			}
		}
	}
}

// sayNothing are words that are near those that say something.
func sayNothing() []api.Word {
	out := []api.Word{
		1<<43 | 8 | 1,                 // a place one past the last
		math.MaxUint64 - 6, 1<<63 | 1, // places with all bits, with the highest one
		0x110000<<8 | 0x32, 0xd800<<8 | 0x32, 0xdbff<<8 | 0x32, 0xdc00<<8 | 0x32, 0xdfff<<8 | 0x32, 1<<40 | 0x4132, 1<<63 | 0x4132, // no letters
		7, 7 | 5<<11, 7 | 1<<40<<11, // heads of type 0
		(1<<40+1)<<11 | 0xf, 1<<63 | 0xf, math.MaxUint64, // heads of sizes past the last
	}
	for _, kind := range []api.Word{0x3a, 0x42, 0x4a} { // names, primitives, special forms one past the last, and further on
		out = append(out, (1<<30+1)<<8|kind, 1<<31<<8|kind, 1<<32<<8|kind, 1<<63|kind, math.MaxUint64&^0xff|kind)
	}
	for _, c := range []api.Word{2, 10, 18, 26, 34, 42} { // constants with bits above
		for bit := 8; bit < 64; bit++ {
			out = append(out, c|1<<bit)
		}
	}
	for kind := api.Word(10); kind < 32; kind++ { // kinds that are none
		out = append(out, kind<<3|2, kind<<3|2|'A'<<8, kind<<3|2|1<<63)
	}
	for _, tag := range []api.Word{3, 4, 5, 6} { // tags that say nothing
		for bit := 3; bit < 64; bit++ {
			out = append(out, tag, 1<<bit|tag, 5<<3|tag, math.MaxUint64&^7|tag)
		}
	}
	return out
}

func TestWordsThatSayNothing(t *testing.T) {
	for _, w := range sayNothing() {
		if all := allTold(w); len(all) != 0 {
			t.Errorf("%#x says %v", w, all)
		}
		checkTold(t, w)
	}
}
