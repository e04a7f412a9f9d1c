package word_test

import (
	"math/rand"
	"testing"

	"athanor/api"
	"athanor/word"
)

// What words say.
const (
	sayNumber   = "number"
	sayPlace    = "place"
	sayConstant = "constant"
	sayLetter   = "letter"
	sayName     = "name"
	sayPrim     = "primitive"
	saySpecial  = "special form"
	sayHead     = "head"
)

// said is what a word says: a head's type and size are n and size, a constant's n is its place in the chapter's table.
type said struct {
	what string
	n    int64
	size int64
}

// constants are the six in the chapter's order.
func constants() []api.Word {
	return []api.Word{word.Null, word.False, word.True, word.Eof, word.Void, word.Unset}
}

// says is the chapter's table written out a second time, by division: what a word says; false, if it says nothing.
func says(w api.Word) (said, bool) {
	rest := uint64(w) / 8
	switch uint64(w) % 8 {
	case 0:
		n := int64(rest)
		if n >= 1<<60 {
			n -= 1 << 61
		}
		return said{what: sayNumber, n: n}, true
	case 1:
		return sayUpTo(sayPlace, rest, 1<<40)
	case 2:
		return saysOfTag2(rest%32, rest/32)
	case 7:
		kind, size := rest%256, rest/256
		if kind == 0 || size > 1<<40 {
			return said{}, false
		}
		return said{what: sayHead, n: int64(kind), size: int64(size)}, true
	}
	return said{}, false
}

func saysOfTag2(kind, n uint64) (said, bool) {
	switch kind {
	case 0, 1, 2, 3, 4, 5:
		if n != 0 {
			return said{}, false
		}
		return said{what: sayConstant, n: int64(kind)}, true
	case 6:
		if n >= 0xd800 && n <= 0xdfff {
			return said{}, false
		}
		return sayUpTo(sayLetter, n, 0x10ffff)
	case 7:
		return sayUpTo(sayName, n, 1<<30)
	case 8:
		return sayUpTo(sayPrim, n, 1<<30)
	case 9:
		return sayUpTo(saySpecial, n, 1<<30)
	}
	return said{}, false
}

func sayUpTo(what string, n, most uint64) (said, bool) {
	if n > most {
		return said{}, false
	}
	return said{what: what, n: int64(n)}, true
}

// toldBy is a call that tells a word of one number.
type toldBy struct {
	what string
	tell func(w api.Word) (int64, bool)
}

func tellers() []toldBy {
	return []toldBy{
		{sayNumber, word.Int},
		{sayPlace, wide(word.At)},
		{sayLetter, wide(word.Letter)},
		{sayName, wide(word.NameOf)},
		{sayPrim, wide(word.PrimOf)},
		{saySpecial, wide(word.SpecialOf)},
	}
}

func wide(tell func(w api.Word) (int, bool)) func(w api.Word) (int64, bool) {
	return func(w api.Word) (int64, bool) {
		n, ok := tell(w)
		return int64(n), ok
	}
}

// allTold is all that the package says of a word, constants too.
func allTold(w api.Word) []said {
	var out []said
	for _, c := range tellers() {
		if n, ok := c.tell(w); ok {
			out = append(out, said{what: c.what, n: n})
		}
	}
	if kind, size, ok := word.HeadOf(w); ok {
		out = append(out, said{what: sayHead, n: int64(kind), size: int64(size)})
	}
	for i, c := range constants() {
		if w == c {
			out = append(out, said{what: sayConstant, n: int64(i)})
		}
	}
	return out
}

// checkTold holds all that is told of a word against the chapter's table: it is told by its own call alone, and beside a false there is nothing.
func checkTold(t *testing.T, w api.Word) {
	t.Helper()
	want, ok := says(w)
	for _, c := range tellers() {
		n, fine := c.tell(w)
		if mine := ok && want.what == c.what; fine != mine || mine && n != want.n || !mine && n != 0 {
			t.Fatalf("%#x as a %s: %d, %v; it says %v, %v", w, c.what, n, fine, want, ok)
		}
	}
	kind, size, fine := word.HeadOf(w)
	if mine := ok && want.what == sayHead; fine != mine || mine && (int64(kind) != want.n || int64(size) != want.size) || !mine && (kind != 0 || size != 0) {
		t.Fatalf("%#x as a head: %d, %d, %v; it says %v, %v", w, kind, size, fine, want, ok)
	}
}

// madeBy is a call that makes a word of one number, and the numbers between which it does.
type madeBy struct {
	what        string
	least, most int64
	make        func(n int64) (api.Word, bool)
}

func makers() []madeBy {
	return []madeBy{
		{sayNumber, -1 << 60, 1<<60 - 1, word.Fix},
		{sayPlace, 0, 1 << 40, narrow(word.Ptr)},
		{sayLetter, 0, 0x10ffff, narrow(word.Char)},
		{sayName, 0, 1 << 30, narrow(word.Name)},
		{sayPrim, 0, 1 << 30, narrow(word.Prim)},
		{saySpecial, 0, 1 << 30, narrow(word.Special)},
	}
}

func narrow(made func(n int) (api.Word, bool)) func(n int64) (api.Word, bool) {
	return func(n int64) (api.Word, bool) { return made(int(n)) }
}

// makes tells whether that call makes a word of n.
func (c madeBy) makes(n int64) bool {
	if c.what == sayLetter && 0xd800 <= n && n <= 0xdfff {
		return false
	}
	return c.least <= n && n <= c.most
}

// numbers are those at and about all powers of two and the ends of the letters' ranges, with both signs, and some more; the same ones at each run.
func numbers() []int64 {
	r := rand.New(rand.NewSource(61))
	var out []int64
	for i := range 64 {
		for by := int64(-2); by <= 2; by++ {
			out = append(out, 1<<i+by, -1<<i+by)
		}
	}
	for _, n := range []int64{0xd7ff, 0xd800, 0xdabc, 0xdfff, 0xe000, 0x10ffff, 0x110000} {
		out = append(out, n, -n, n+1<<16, n+1<<32, n+1<<56)
	}
	for range 5000 {
		n := int64(r.Uint64() >> r.Intn(64))
		out = append(out, n, -n)
	}
	return out
}

// words are words of all tags, kinds and types, with numbers of all sizes above, and some more; the same ones at each run.
func words() []api.Word {
	r := rand.New(rand.NewSource(62))
	var above []uint64
	for i := range 64 {
		above = append(above, 1<<i-1, 1<<i, 1<<i+1)
	}
	above = append(above, 0xd7ff, 0xd800, 0xdabc, 0xdfff, 0xe000, 0x10ffff, 0x110000)
	for range 200 {
		above = append(above, r.Uint64()>>r.Intn(64))
	}
	var out []api.Word
	for _, low := range []int{3, 8, 11} {
		for n := range uint64(1) << low {
			for _, a := range above {
				out = append(out, api.Word(a<<low|n))
			}
		}
	}
	for range 100000 {
		out = append(out, api.Word(r.Uint64()>>r.Intn(64)))
	}
	return out
}
