package heap_test

import (
	"slices"
	"testing"

	"athanor/api"
	"athanor/heap"
	"athanor/word"
)

// More than one wrong at once, told in the chapter's order (R2); nil, and heaps that New did not make.

func TestOrderOfAlloc(t *testing.T) {
	h := mustNew(t, 3)
	mustAlloc(t, h, api.TCell, fix(1))
	before := stateOf(h)
	tooMany := []api.Word{fix(1), fix(2)}
	withHead := append(tooMany, head(1, 1))
	for _, c := range []struct {
		kind   int
		fields []api.Word
		want   api.Errno
	}{
		{0, withHead, api.ErrType}, {23, withHead, api.ErrType}, {0, tooMany, api.ErrType}, {23, withHead[2:], api.ErrType},
		{1, withHead, api.ErrArg}, {22, withHead[1:], api.ErrArg}, {22, tooMany, api.ErrFull},
	} {
		p, err := h.Alloc(c.kind, c.fields...)
		refused(t, "Alloc", p, err, c.want)
	}
	expectState(t, h, before)
}

func TestOrderOfFill(t *testing.T) {
	h := mustNew(t, 3)
	mustAlloc(t, h, api.TCell, fix(1))
	before := stateOf(h)
	for _, c := range []struct {
		kind, n int
		w       api.Word
		want    api.Errno
	}{
		{0, -1, head(1, 1), api.ErrType}, {23, api.MaxHeap + 1, fix(1), api.ErrType}, {-1, 5, head(1, 1), api.ErrType}, {0, 5, fix(1), api.ErrType}, {23, 1, head(1, 1), api.ErrType},
		{1, -1, head(1, 1), api.ErrArg}, {22, api.MaxHeap + 1, fix(1), api.ErrArg}, {1, 5, head(1, 1), api.ErrArg}, {1, api.MaxHeap, head(1, 1), api.ErrArg},
		{1, 5, fix(1), api.ErrFull}, {1, api.MaxHeap, fix(1), api.ErrFull}, {1, 1, fix(1), api.ErrFull},
	} {
		p, err := h.Fill(c.kind, c.n, c.w)
		refused(t, "Fill", p, err, c.want)
	}
	expectState(t, h, before)
}

func TestOrderOfGetAndSet(t *testing.T) {
	h, cell, _, bare := three(t)
	before := stateOf(h)
	for _, c := range []struct {
		p       api.Word
		kind, i int
		w       api.Word
		want    api.Errno
	}{
		{pointer(1), api.TCell, 5, head(1, 1), api.ErrType}, {word.Null, 0, -1, head(1, 1), api.ErrType}, {pointer(100), 0, 0, head(1, 1), api.ErrType},
		{cell, api.TPair, 5, head(1, 1), api.ErrType}, {cell, api.TPair, -1, fix(1), api.ErrType}, {cell, api.TPair, 0, head(1, 1), api.ErrType}, {bare, 23, 0, fix(1), api.ErrType},
		{cell, 0, 1, head(1, 1), api.ErrRange}, {cell, api.TCell, -1, head(1, 1), api.ErrRange}, {bare, api.TPair, 0, head(1, 1), api.ErrRange},
		{cell, api.TCell, 0, head(1, 1), api.ErrArg}, {cell, 0, 0, head(23, 0), api.ErrArg},
	} {
		if err := h.Set(c.p, c.kind, c.i, c.w); err != c.want {
			t.Errorf("Set(%#x, %d, %d, %#x): %d, want %d", c.p, c.kind, c.i, c.w, err, c.want)
		}
		if c.want == api.ErrArg {
			continue
		}
		w, err := h.Get(c.p, c.kind, c.i)
		refused(t, "Get", w, err, c.want)
	}
	expectState(t, h, before)
}

// Nil, and a heap that New did not make, have no words.
func TestHeapsWithoutWords(t *testing.T) {
	var none *heap.Heap
	for name, h := range map[string]*heap.Heap{"nil": none, "not made": {}, "new": new(heap.Heap)} {
		if h.Used() != 0 || h.Room() != 0 || len(h.Objects()) != 0 {
			t.Errorf("%s: %d used, %d not, objects %v", name, h.Used(), h.Room(), h.Objects())
		}
		for _, i := range []int{-1, 0, 1, 100} {
			h.Put(i, fix(1))
			h.Put(i, head(1, 0))
			h.Cut(i)
			if w := h.Word(i); w != 0 || h.Used() != 0 || h.Room() != 0 {
				t.Errorf("%s: the word at %d is %#x", name, i, w)
			}
		}
		expectFull(t, h)
		expectNowhere(t, h, append(nowhere(), pointer(0), pointer(2), pointer(6)))
	}
}

// expectFull holds that nothing is laid, and that what is told ahead of ErrFull is told.
func expectFull(t *testing.T, h *heap.Heap) {
	t.Helper()
	for _, fields := range [][]api.Word{nil, {fix(1)}, slices.Repeat([]api.Word{word.Null}, 10)} {
		p, err := h.Alloc(api.TPair, fields...)
		refused(t, "Alloc", p, err, api.ErrFull)
		p, err = h.Alloc(23, fields...)
		refused(t, "Alloc", p, err, api.ErrType)
		p, err = h.Alloc(api.TPair, append(fields, head(1, 0))...)
		refused(t, "Alloc", p, err, api.ErrArg)
		p, err = h.Fill(api.TTable, len(fields), word.Null)
		refused(t, "Fill", p, err, api.ErrFull)
	}
	for _, c := range []struct {
		kind, n int
		w       api.Word
		want    api.Errno
	}{
		{0, -1, head(1, 0), api.ErrType}, {1, -1, fix(0), api.ErrArg}, {1, api.MaxHeap + 1, fix(0), api.ErrArg}, {1, 1, head(1, 0), api.ErrArg}, {1, api.MaxHeap, fix(0), api.ErrFull},
	} {
		p, err := h.Fill(c.kind, c.n, c.w)
		refused(t, "Fill", p, err, c.want)
	}
}
