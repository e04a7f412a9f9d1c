package heap_test

import (
	"math"
	"slices"
	"testing"

	"athanor/api"
	"athanor/heap"
	"athanor/word"
)

// Promise 7.3: fields, types, sizes, places.

// three lays a cell, a vector of three and a pair without fields, of which places 0, 2 and 6 are there.
func three(t *testing.T) (h *heap.Heap, cell, vector, bare api.Word) {
	t.Helper()
	h = mustNew(t, 12)
	cell = mustAlloc(t, h, api.TCell, fix(10))
	vector = mustAlloc(t, h, api.TVector, cell, word.Null, fix(12))
	bare = mustAlloc(t, h, api.TPair)
	return h, cell, vector, bare
}

func TestGetAndSet(t *testing.T) {
	h, cell, vector, bare := three(t)
	expectGet(t, h, cell, api.TCell, 0, fix(10))
	expectGet(t, h, vector, api.TVector, 0, cell)
	expectGet(t, h, vector, 0, 1, word.Null)
	expectGet(t, h, vector, api.TVector, 2, fix(12))
	for i, w := range []api.Word{bare, vector, word.Eof} {
		if err := h.Set(vector, []int{0, api.TVector}[i%2], i, w); err != api.OK {
			t.Errorf("Set(vector, %d): %d", i, err)
		}
		expectGet(t, h, vector, 0, i, w)
	}
	want := []api.Word{head(api.TCell, 1), fix(10), head(api.TVector, 3), bare, vector, word.Eof, head(api.TPair, 0)}
	if got := stateOf(h); !slices.Equal(got.row, want) {
		t.Errorf("%v, want %v", got.row, want)
	}
}

// Each word that is no head may be set, and is told as it is.
func TestSetOfAllWords(t *testing.T) {
	h, _, vector, _ := three(t)
	for _, w := range plain() {
		if err := h.Set(vector, api.TVector, 1, w); err != api.OK {
			t.Errorf("Set of %#x: %d", w, err)
		}
		expectGet(t, h, vector, api.TVector, 1, w)
	}
	before := stateOf(h)
	for _, w := range heads() {
		for i := range 3 {
			if err := h.Set(vector, api.TVector, i, w); err != api.ErrArg {
				t.Errorf("Set of the head %#x: %d", w, err)
			}
		}
	}
	expectState(t, h, before)
}

func TestFieldsThatAreNotThere(t *testing.T) {
	h, cell, vector, bare := three(t)
	before := stateOf(h)
	for _, c := range []struct {
		p          api.Word
		kind, size int
	}{{cell, api.TCell, 1}, {vector, api.TVector, 3}, {bare, api.TPair, 0}} {
		for _, i := range []int{-1, -2, c.size, c.size + 1, 12, api.MaxHeap, 1 << 32, 1 << 40, 1 << 61, math.MinInt, math.MaxInt - 1, math.MaxInt} {
			for _, kind := range []int{0, c.kind} {
				w, err := h.Get(c.p, kind, i)
				refused(t, "Get of a field that is not there", w, err, api.ErrRange)
				if err := h.Set(c.p, kind, i, fix(1)); err != api.ErrRange {
					t.Errorf("Set(%#x, %d, %d): %d", c.p, kind, i, err)
				}
			}
		}
	}
	expectState(t, h, before)
}

func TestOfAnotherType(t *testing.T) {
	h := mustNew(t, 100)
	for own := 1; own <= 22; own++ {
		p := mustAlloc(t, h, own, fix(own), fix(-own))
		for kind := -2; kind <= 30; kind++ {
			w, err := h.Get(p, kind, 1)
			wrong := h.Set(p, kind, 1, fix(-own))
			if kind == 0 || kind == own {
				if w != fix(-own) || err != api.OK || wrong != api.OK {
					t.Errorf("type %d as %d: %#x, %d, %d", own, kind, w, err, wrong)
				}
				continue
			}
			refused(t, "Get of another type", w, err, api.ErrType)
			if wrong != api.ErrType {
				t.Errorf("Set of type %d as %d: %d", own, kind, wrong)
			}
		}
		for _, kind := range []int{own + 256, own + 1<<32, -own, math.MinInt, math.MaxInt} {
			w, err := h.Get(p, kind, 0)
			refused(t, "Get of a type that is none", w, err, api.ErrType)
		}
	}
}

func TestKindAndSize(t *testing.T) {
	h := mustNew(t, 3000)
	for own := 1; own <= 22; own++ {
		for _, size := range []int{0, 1, 2, own, 50} {
			p := mustFill(t, h, own, size, word.Void)
			kind, err := h.Kind(p)
			got, wrong := h.Size(p)
			if kind != own || got != size || err != api.OK || wrong != api.OK {
				t.Errorf("type %d, size %d: %d, %d, %d, %d", own, size, kind, got, err, wrong)
			}
		}
	}
}

// nowhere are words that say no place that is there, of the heap that three lays; it has used 7 of 12 words.
func nowhere() []api.Word {
	out := []api.Word{fix(0), fix(2), fix(6), word.Null, word.False, word.True, word.Eof, word.Void, word.Unset}
	for _, make := range []func(int) (api.Word, bool){word.Char, word.Name, word.Prim, word.Special} {
		for _, n := range []int{0, 2, 6} {
			w, _ := make(n)
			out = append(out, w)
		}
	}
	out = append(out, heads()...)
	out = append(out, head(api.TCell, 1), head(api.TVector, 3), 3, 4, 5, 6, 7, 2*8+3, math.MaxUint64) // heads that lie there, and words that say nothing
	for _, at := range []int{1, 3, 4, 5} {                                                            // fields
		out = append(out, pointer(at))
	}
	for _, at := range []int{7, 8, 11, 12, 13, 1000, api.MaxHeap, 1 << 32, 1<<32 + 2, 1 << 40} { // not used, and past the row
		out = append(out, pointer(at))
	}
	return append(out, pointer(1<<40+1), 1<<63|1, math.MaxUint64-6) // no places at all
}

func TestPlacesThatAreNotThere(t *testing.T) {
	h, _, _, _ := three(t)
	expectNowhere(t, h, nowhere())
}

// expectNowhere holds that there is nothing where those words say.
func expectNowhere(t *testing.T, h *heap.Heap, words []api.Word) {
	t.Helper()
	before := stateOf(h)
	for _, p := range words {
		for _, kind := range []int{0, api.TPair, api.TCell, api.TVector, 23, -1} {
			w, err := h.Get(p, kind, 0)
			refused(t, "Get", w, err, api.ErrType)
			if err := h.Set(p, kind, 0, fix(1)); err != api.ErrType {
				t.Errorf("Set(%#x, %d): %d", p, kind, err)
			}
		}
		if kind, err := h.Kind(p); kind != 0 || err != api.ErrType {
			t.Errorf("Kind(%#x): %d, %d", p, kind, err)
		}
		if size, err := h.Size(p); size != 0 || err != api.ErrType {
			t.Errorf("Size(%#x): %d, %d", p, size, err)
		}
	}
	expectState(t, h, before)
}

// A heap that was filled and is empty again has nothing anywhere, though its words are still those that were laid.
func TestPlacesThatWereThere(t *testing.T) {
	h, cell, vector, bare := three(t)
	h.Cut(6)
	expectNowhere(t, h, append(nowhere(), bare))
	h.Cut(2)
	expectNowhere(t, h, append(nowhere(), bare, vector))
	expectGet(t, h, cell, api.TCell, 0, fix(10))
	h.Cut(0)
	expectNowhere(t, h, append(nowhere(), bare, vector, cell))
}

func TestObjects(t *testing.T) {
	h, cell, vector, bare := three(t)
	if got := h.Objects(); !slices.Equal(got, []api.Word{cell, vector, bare}) || !slices.Equal(got, []api.Word{pointer(0), pointer(2), pointer(6)}) {
		t.Errorf("%v", got)
	}
	h.Objects()[1] = 0 // what is handed out is new memory
	if got := h.Objects(); !slices.Equal(got, []api.Word{cell, vector, bare}) {
		t.Errorf("%v", got)
	}
	kept := h.Objects()
	h.Cut(0)
	mustFill(t, h, api.TBytes, 11, fix(0))
	if got := h.Objects(); !slices.Equal(got, []api.Word{pointer(0)}) || !slices.Equal(kept, []api.Word{cell, vector, bare}) {
		t.Errorf("%v, and what was handed out is %v", got, kept)
	}
}
