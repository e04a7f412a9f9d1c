package gc_test

import (
	"math/rand"
	"slices"
	"testing"

	"athanor/api"
	"athanor/gc"
	"athanor/heap"
	"athanor/word"
)

// Wrong inputs: nil, heaps that New did not make, heaps whose heads were put.

func TestHeapsWithoutWords(t *testing.T) {
	var none *heap.Heap
	for name, h := range map[string]*heap.Heap{"nil": none, "not made": {}, "new": new(heap.Heap)} {
		for _, roots := range [][]api.Word{nil, {}, {pointer(0)}, {pointer(0), word.Null, pointer(0), pointer(1 << 40)}, append(nowhere(), pointer(2), pointer(6))} {
			handed := slices.Clone(roots)
			if n := gc.Live(h, roots...); n != 0 {
				t.Errorf("%s: %d live", name, n)
			}
			got := gc.Collect(h, roots...)
			if !slices.Equal(got, handed) || !slices.Equal(roots, handed) || h.Used() != 0 || h.Room() != 0 {
				t.Errorf("%s: roots %v became %v", name, handed, got)
			}
			if len(got) > 0 {
				got[0]++ // new memory, here too
				if roots[0] != handed[0] {
					t.Errorf("%s: what is answered is what was handed in", name)
				}
			}
		}
		if len(gc.Collect(h)) != 0 || gc.Live(h) != 0 {
			t.Errorf("%s: no roots", name)
		}
	}
}

// Whoever puts heads where none were, or cuts through objects, sees what is made of it; but calls end without a panic, Live changes nothing, no more is used than was, and a second collection changes nothing.
func TestWildHeaps(t *testing.T) {
	r := rand.New(rand.NewSource(87))
	for range 20000 {
		n := 1 + r.Intn(30)
		h := mustNew(t, n)
		for range 12 {
			wildCall(r, h, n)
		}
		before := stateOf(h)
		roots := make([]api.Word, r.Intn(4))
		for i := range roots {
			roots[i] = pointer(r.Intn(n + 2))
		}
		live := gc.Live(h, roots...)
		expectState(t, h, before)
		got := gc.Collect(h, roots...)
		if h.Used() > before.used || h.Used()+h.Room() != n || len(got) != len(roots) {
			t.Fatalf("%v, roots %v: %v, roots %v", before, roots, stateOf(h), got)
		}
		expectUsed(t, h, live, got)
		expectNoChange(t, h, got)
	}
}

// wildCall changes a heap of n words somehow.
func wildCall(r *rand.Rand, h *heap.Heap, n int) {
	switch r.Intn(6) {
	case 0, 1:
		h.Fill(1+r.Intn(22), r.Intn(6), pointer(r.Intn(n+1)))
	case 2:
		h.Put(r.Intn(n), pointer(r.Intn(n+1)))
	case 3:
		h.Put(r.Intn(n), heads()[r.Intn(len(heads()))])
	case 4:
		h.Put(r.Intn(n), head(1+r.Intn(255), r.Intn(n+2)))
	case 5:
		if r.Intn(3) == 0 {
			h.Cut(r.Intn(n + 1))
		}
	}
}

// Heads that were put so that objects fill what is used are objects as others are.
func TestHeadsThatWerePut(t *testing.T) {
	m := model{{api.TVector, []api.Word{fix(1), fix(2), fix(3), fix(4), fix(5)}}}
	h := m.lay(t, 3)
	for i, w := range []api.Word{head(api.TCell, 1), fix(1), head(api.TRib, 0), head(api.TPair, 2), pointer(2), pointer(3)} {
		h.Put(i, w)
	}
	split := model{{api.TCell, []api.Word{fix(1)}}, {api.TRib, nil}, {api.TPair, []api.Word{pointer(2), pointer(3)}}}
	expectCollect(t, h, split, pointer(3))
}

// A head that says more fields than are used has those alone that are.
func TestHeadsThatSayTooMuch(t *testing.T) {
	for _, size := range []int{3, 10, api.MaxHeap, 1 << 40} {
		m := model{{api.TBytes, []api.Word{fix(9)}}, {api.TPair, []api.Word{pointer(2), fix(1)}}}
		h := m.lay(t, 5)
		h.Put(2, head(api.TPair, size))
		if n := gc.Live(h, pointer(2)); n != 3 {
			t.Errorf("size %d: %d live", size, n)
		}
		got := gc.Collect(h, pointer(2))
		if want := []api.Word{head(api.TPair, size), pointer(0), fix(1)}; !slices.Equal(stateOf(h).row, want) || got[0] != pointer(0) {
			t.Errorf("size %d: %v, want %v", size, stateOf(h), want)
		}
	}
}
