package heap_test

import (
	"math"
	"slices"
	"testing"

	"athanor/api"
	"athanor/heap"
	"athanor/word"
)

// Promises 7.1 and 7.2: heaps and objects that are made.

func TestNew(t *testing.T) {
	for _, n := range []int{1, 2, 3, 100, 1 << 20, api.MaxHeap - 1, api.MaxHeap} {
		h := mustNew(t, n)
		if h.Used() != 0 || h.Room() != n || len(h.Objects()) != 0 {
			t.Errorf("New(%d): %d used, %d not, objects %v", n, h.Used(), h.Room(), h.Objects())
		}
		for _, i := range []int{0, 1, n - 1, n} {
			if w := h.Word(i); w != 0 {
				t.Errorf("New(%d): the word at %d is %#x", n, i, w)
			}
		}
	}
	for _, n := range []int{0, -1, -100, api.MaxHeap + 1, 2 * api.MaxHeap, 1 << 32, 1<<32 + 5, math.MinInt, math.MaxInt} {
		if h, err := heap.New(n); h != nil || err != api.ErrArg {
			t.Errorf("New(%d): %v, %d", n, h, err)
		}
	}
}

// The chapter's own example.
func TestExample(t *testing.T) {
	h := mustNew(t, 4)
	p, err := h.Alloc(api.TPair, word.Null, word.Null)
	if p != pointer(0) || err != api.OK || h.Room() != 1 || h.Used() != 3 {
		t.Fatalf("%#x, %d, room %d", p, err, h.Room())
	}
	again, err := h.Alloc(api.TPair, word.Null, word.Null)
	refused(t, "again", again, err, api.ErrFull)
	w, err := h.Get(p, api.TVector, 0)
	refused(t, "another type", w, err, api.ErrType)
	w, err = h.Get(p, 0, 2)
	refused(t, "one past", w, err, api.ErrRange)
}

// Objects of each type, with no field, one and many, one behind the other.
func TestAllocOfEachType(t *testing.T) {
	rows := [][]api.Word{nil, {}, {word.Null}, {fix(1), fix(2)}, plain(), slices.Repeat([]api.Word{fix(7)}, 300)}
	h, m := mustNew(t, 100000), &model{words: 100000}
	for kind := 1; kind <= 22; kind++ {
		for _, fields := range rows {
			at := h.Used()
			p := mustAlloc(t, h, kind, fields...)
			if p != pointer(at) || h.Used() != at+1+len(fields) || h.Used()+h.Room() != 100000 {
				t.Fatalf("Alloc(%d, %d fields): %#x at %d, %d used, %d not", kind, len(fields), p, at, h.Used(), h.Room())
			}
			if w := h.Word(at); w != api.Word(len(fields)*2048+kind*8+7) {
				t.Fatalf("Alloc(%d, %d fields): the head is %#x", kind, len(fields), w)
			}
			m.alloc(kind, fields)
		}
	}
	expectModel(t, h, m)
}

func TestFillOfEachType(t *testing.T) {
	h, m := mustNew(t, 100000), &model{words: 100000}
	for kind := 1; kind <= 22; kind++ {
		for n, w := range plain() {
			at := h.Used()
			p := mustFill(t, h, kind, n, w)
			if p != pointer(at) || h.Used() != at+1+n || h.Used()+h.Room() != 100000 {
				t.Fatalf("Fill(%d, %d, %#x): %#x at %d, %d used, %d not", kind, n, w, p, at, h.Used(), h.Room())
			}
			m.fill(kind, n, w)
		}
	}
	expectModel(t, h, m)
}

func TestTypesOneFurther(t *testing.T) {
	h := mustNew(t, 100)
	mustAlloc(t, h, 1, word.Null)
	mustAlloc(t, h, 22)
	mustFill(t, h, 1, 0, 0)
	mustFill(t, h, 22, 2, 0)
	before := stateOf(h)
	for _, kind := range []int{0, -1, 23, 24, 255, 256, 257, 1 << 32, 1<<32 + 1, math.MinInt, math.MaxInt} {
		p, err := h.Alloc(kind)
		refused(t, "Alloc of a type that is none", p, err, api.ErrType)
		p, err = h.Alloc(kind, word.Null, word.Null)
		refused(t, "Alloc of a type that is none", p, err, api.ErrType)
		p, err = h.Fill(kind, 2, word.Null)
		refused(t, "Fill of a type that is none", p, err, api.ErrType)
	}
	expectState(t, h, before)
}

// A field that is a head, at whatever place, is refused; whatever type and size it says.
func TestFieldsThatAreHeads(t *testing.T) {
	h := mustNew(t, 100)
	mustAlloc(t, h, api.TPair, fix(1), fix(2))
	before := stateOf(h)
	for _, w := range heads() {
		for i := range 5 {
			fields := slices.Repeat([]api.Word{word.Null}, 5)
			fields[i] = w
			p, err := h.Alloc(api.TVector, fields...)
			refused(t, "Alloc with a head", p, err, api.ErrArg)
		}
		for _, n := range []int{1, 2, 5} {
			p, err := h.Fill(api.TVector, n, w)
			refused(t, "Fill with a head", p, err, api.ErrArg)
		}
	}
	expectState(t, h, before)
}

// Of no fields none is a head, whatever the word is.
func TestFillOfNoFields(t *testing.T) {
	for _, w := range append(plain(), heads()...) {
		h := mustNew(t, 2)
		if p, err := h.Fill(api.TString, 0, w); p != pointer(0) || err != api.OK || h.Used() != 1 || h.Word(0) != head(api.TString, 0) {
			t.Errorf("Fill of no fields with %#x: %#x, %d", w, p, err)
		}
	}
}

func TestFillSizes(t *testing.T) {
	h := mustNew(t, 10)
	before := stateOf(h)
	for _, n := range []int{-1, -2, math.MinInt, api.MaxHeap + 1, 2 * api.MaxHeap, 1 << 32, 1 << 40, 1<<40 + 1, math.MaxInt - 1, math.MaxInt} {
		p, err := h.Fill(api.TVector, n, word.Null)
		refused(t, "Fill of a size that is none", p, err, api.ErrArg)
	}
	for _, n := range []int{10, 11, 1000, api.MaxHeap - 1, api.MaxHeap} {
		p, err := h.Fill(api.TVector, n, word.Null)
		refused(t, "Fill of more than there is", p, err, api.ErrFull)
	}
	expectState(t, h, before)
}

// The last word is used, but none behind it.
func TestToTheLastWord(t *testing.T) {
	for n := 1; n <= 40; n++ {
		for first := 0; first < n; first++ {
			h := mustNew(t, n)
			mustFill(t, h, api.TVector, first, fix(1))
			rest := n - first - 1 // words that are left
			before := stateOf(h)
			for _, more := range []int{rest, rest + 1, rest + 100} {
				p, err := h.Alloc(api.TBytes, make([]api.Word, more)...)
				refused(t, "Alloc past the last word", p, err, api.ErrFull)
				p, err = h.Fill(api.TBytes, more, fix(2))
				refused(t, "Fill past the last word", p, err, api.ErrFull)
			}
			expectState(t, h, before)
			if rest == 0 {
				continue
			}
			if first%2 == 0 {
				mustAlloc(t, h, api.TBytes, make([]api.Word, rest-1)...)
			} else {
				mustFill(t, h, api.TBytes, rest-1, fix(0))
			}
			m := &model{words: n, objects: []object{{api.TVector, slices.Repeat([]api.Word{fix(1)}, first)}, {api.TBytes, make([]api.Word, rest-1)}}}
			expectModel(t, h, m)
			p, err := h.Alloc(api.TPair)
			refused(t, "Alloc where all are used", p, err, api.ErrFull)
			p, err = h.Fill(api.TPair, 0, 0)
			refused(t, "Fill where all are used", p, err, api.ErrFull)
			expectModel(t, h, m)
		}
	}
}

// One word short: what fits but for its last word is refused, and a smaller one is laid.
func TestOneWordShort(t *testing.T) {
	h := mustNew(t, 5)
	mustAlloc(t, h, api.TPair, fix(1), fix(2))
	p, err := h.Alloc(api.TPair, fix(3), fix(4))
	refused(t, "two fields in two words", p, err, api.ErrFull)
	if p := mustAlloc(t, h, api.TCell, fix(3)); p != pointer(3) || h.Room() != 0 {
		t.Errorf("%#x, room %d", p, h.Room())
	}
}

func TestGreatestHeap(t *testing.T) {
	h := mustNew(t, api.MaxHeap)
	p, err := h.Fill(api.TVector, api.MaxHeap, fix(3))
	refused(t, "as many fields as words", p, err, api.ErrFull)
	if p = mustFill(t, h, api.TVector, api.MaxHeap-1, fix(3)); p != pointer(0) || h.Room() != 0 || h.Used() != api.MaxHeap {
		t.Fatalf("%#x, %d used", p, h.Used())
	}
	expectGet(t, h, p, api.TVector, api.MaxHeap-2, fix(3))
	w, err := h.Get(p, api.TVector, api.MaxHeap-1)
	refused(t, "one past the last field", w, err, api.ErrRange)
	h.Cut(0)
	fields := make([]api.Word, api.MaxHeap)
	fields[api.MaxHeap-2] = fix(8)
	p, err = h.Alloc(api.TVector, fields...)
	refused(t, "as many fields as words", p, err, api.ErrFull)
	p = mustAlloc(t, h, api.TVector, fields[:api.MaxHeap-1]...)
	expectGet(t, h, p, api.TVector, api.MaxHeap-2, fix(8))
}

// What is handed in is not kept and not changed, nor what lies behind its end (R4).
func TestFieldsAreCopied(t *testing.T) {
	h := mustNew(t, 20)
	all := []api.Word{fix(1), fix(2), fix(3), head(1, 1)}
	p := mustAlloc(t, h, api.TVector, all[:2]...)
	all[0] = fix(9)
	expectGet(t, h, p, 0, 0, fix(1))
	h.Set(p, 0, 1, fix(8))
	mustAlloc(t, h, api.TPair, fix(5), fix(6))
	if !slices.Equal(all, []api.Word{fix(9), fix(2), fix(3), head(1, 1)}) {
		t.Errorf("what was handed in is %v", all)
	}
}

// Two heaps have nothing in common.
func TestTwoHeaps(t *testing.T) {
	a, b := mustNew(t, 10), mustNew(t, 10)
	p := mustAlloc(t, a, api.TCell, fix(1))
	q := mustAlloc(t, b, api.TCell, fix(2))
	a.Set(p, 0, 0, fix(3))
	mustAlloc(t, a, api.TCell, fix(4))
	if p != q || b.Used() != 2 {
		t.Errorf("%#x, %#x, %d used", p, q, b.Used())
	}
	expectGet(t, b, q, 0, 0, fix(2))
}
