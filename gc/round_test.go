package gc_test

import (
	"slices"
	"testing"

	"athanor/api"
	"athanor/gc"
	"athanor/heap"
	"athanor/word"
)

// Promise 8.1: objects that go round, that share others, that say themselves; long chains and wide objects.

func TestSaysItself(t *testing.T) {
	m := model{{api.TCell, []api.Word{pointer(0)}}, {api.TVector, []api.Word{pointer(2), word.Null, pointer(2), pointer(2)}}, {api.TCell, []api.Word{pointer(7)}}}
	for _, root := range []int{0, 2, 7} {
		_, kept := expectCollect(t, m.lay(t, 1), m, pointer(root))
		if len(kept) != 1 || kept[0].fields[0] != pointer(0) {
			t.Errorf("root %d: %v", root, kept)
		}
	}
	expectCollect(t, m.lay(t, 1), m) // none of them keeps itself
}

// Rings of one to nine cells, with dead ones between, of which each one may be the root.
func TestGoesRound(t *testing.T) {
	for count := 1; count <= 9; count++ {
		for step := 1; step <= count; step++ {
			var m model
			for n := range count {
				m = append(m, object{api.TBytes, []api.Word{fix(n)}}, object{api.TCell, []api.Word{pointer((n+step)%count*4 + 2)}})
			}
			for n := range count {
				expectCollect(t, m.lay(t, 0), m, pointer(n*4+2))
			}
			expectCollect(t, m.lay(t, 0), m)
		}
	}
}

// What is shared is there once behind a collection, and all who share it say its one place.
func TestShares(t *testing.T) {
	m := model{
		{api.TCell, []api.Word{fix(0)}},
		{api.TString, []api.Word{fix(1)}}, // 2: shared
		{api.TPair, []api.Word{pointer(2), pointer(2)}},
		{api.TPair, []api.Word{pointer(4), pointer(2)}},
		{api.TVector, []api.Word{pointer(7), pointer(4), pointer(2)}},
	}
	got, kept := expectCollect(t, m.lay(t, 0), m, pointer(10), pointer(2), pointer(7))
	want := model{{api.TString, []api.Word{fix(1)}}, {api.TPair, []api.Word{pointer(0), pointer(0)}}, {api.TPair, []api.Word{pointer(2), pointer(0)}}, {api.TVector, []api.Word{pointer(5), pointer(2), pointer(0)}}}
	if !slices.Equal(kept.row(), want.row()) || !slices.Equal(got, []api.Word{pointer(8), pointer(0), pointer(5)}) {
		t.Errorf("%v, %v", kept, got)
	}
}

// All heaps of up to three objects with at most three fields in all, whose fields say each place, or none.
func TestAllSmallHeaps(t *testing.T) {
	for shape := range 4 * 4 * 4 {
		sizes := []int{shape%4 - 1, shape/4%4 - 1, shape/16 - 1} // -1: not there
		fields, used := 0, 0
		for _, size := range sizes {
			fields, used = fields+max(size, 0), used+1+size
		}
		if fields > 3 {
			continue
		}
		each(make([]api.Word, fields), used+1, func(words []api.Word) {
			var m model
			at := 0
			for n, size := range sizes {
				if size >= 0 {
					m = append(m, object{n + 1, words[at : at+size]})
					at += size
				}
			}
			for place := range used + 1 {
				expectCollect(t, m.lay(t, 1), m, pointer(place))
			}
			expectCollect(t, m.lay(t, 1), m, pointer(used-1), pointer(0))
		})
	}
}

// each calls with words that say each choice of so many places, or none.
func each(words []api.Word, places int, call func([]api.Word)) {
	for choice := 0; ; choice++ {
		left := choice
		for i := range words {
			words[i] = pointer(left % (places + 1))
			if left%(places+1) == places {
				words[i] = word.Null
			}
			left /= places + 1
		}
		if left > 0 {
			return
		}
		call(words)
	}
}

// A chain as long as the greatest heap allows, each pair of which says the one ahead; every second word is dead.
func TestLongChain(t *testing.T) {
	h := mustNew(t, api.MaxHeap)
	list, count := word.Null, 0
	for h.Room() >= 6 {
		mustAlloc(t, h, api.TVector, fix(count), list)
		list = mustAlloc(t, h, api.TPair, fix(count), list)
		count++
	}
	if n := gc.Live(h, list); n != count*3 {
		t.Fatalf("%d live, want %d", n, count*3)
	}
	roots := gc.Collect(h, list)
	if h.Used() != count*3 || len(roots) != 1 || roots[0] != pointer((count-1)*3) {
		t.Fatalf("%d used, root %v", h.Used(), roots)
	}
	expectChain(t, h, roots[0], count, -1)
}

// A chain that goes the other way: each pair says the one behind it.
func TestLongChainForth(t *testing.T) {
	h := mustNew(t, api.MaxHeap)
	count := api.MaxHeap / 4
	for n := range count {
		next := pointer(n*4 + 5)
		if n == count-1 {
			next = word.Null
		}
		mustAlloc(t, h, api.TParam)
		mustAlloc(t, h, api.TPair, fix(n), next)
	}
	roots := gc.Collect(h, pointer(1))
	if h.Used() != count*3 || len(roots) != 1 || roots[0] != pointer(0) {
		t.Fatalf("%d used, root %v", h.Used(), roots)
	}
	expectChain(t, h, roots[0], count, 1)
}

// expectChain holds that pairs of rising or falling numbers hang on one.
func expectChain(t *testing.T, h *heap.Heap, p api.Word, count, step int) {
	t.Helper()
	n := 0
	if step < 0 {
		n = count - 1
	}
	for range count {
		car, err := h.Get(p, api.TPair, 0)
		if car != fix(n) || err != api.OK {
			t.Fatalf("%#x has %#x, %d, want %d", p, car, err, n)
		}
		p, _ = h.Get(p, api.TPair, 1)
		n += step
	}
	if p != word.Null {
		t.Errorf("behind the last one there is %#x", p)
	}
}

// An object that says very many, each of which says one more: as many wait at once, and it goes on by one of them after the other.
func TestWide(t *testing.T) {
	h := mustNew(t, api.MaxHeap)
	const count = 600000
	wide := mustFill(t, h, api.TVector, count, word.Null)
	for n := range count {
		mustAlloc(t, h, api.TBytes, fix(n))
		leaf := mustAlloc(t, h, api.TRib)
		if err := h.Set(wide, api.TVector, n, mustAlloc(t, h, api.TCell, leaf)); err != api.OK {
			t.Fatal(err)
		}
	}
	if n := gc.Live(h, wide); n != 1+count*4 {
		t.Fatalf("%d live", n)
	}
	roots := gc.Collect(h, wide, wide)
	if h.Used() != 1+count*4 || !slices.Equal(roots, []api.Word{pointer(0), pointer(0)}) {
		t.Fatalf("%d used, roots %v", h.Used(), roots)
	}
	for n := range count {
		cell, _ := h.Get(wide, api.TVector, n)
		leaf, err := h.Get(cell, api.TCell, 0)
		if cell != pointer(count+2+n*3) || leaf != pointer(count+1+n*3) || err != api.OK {
			t.Fatalf("field %d is %#x, which says %#x, %d", n, cell, leaf, err)
		}
	}
}

// One object that fills the greatest heap, and very many roots.
func TestGreatest(t *testing.T) {
	h := mustNew(t, api.MaxHeap)
	p := mustFill(t, h, api.TVector, api.MaxHeap-1, pointer(0))
	roots := slices.Repeat([]api.Word{p, pointer(1), pointer(api.MaxHeap - 1), pointer(api.MaxHeap)}, 100000)
	if n := gc.Live(h, roots...); n != api.MaxHeap {
		t.Errorf("%d live", n)
	}
	if got := gc.Collect(h, roots...); !slices.Equal(got, roots) || h.Used() != api.MaxHeap {
		t.Errorf("%d used", h.Used())
	}
	if gc.Collect(h, roots[1:4]...); h.Used() != 0 || h.Room() != api.MaxHeap {
		t.Errorf("%d used, %d not", h.Used(), h.Room())
	}
}
