package heap_test

import (
	"math"
	"math/rand"
	"slices"
	"testing"

	"athanor/api"
	"athanor/heap"
	"athanor/word"
)

// Promise 7.4: for who collects.

func TestWord(t *testing.T) {
	h, cell, _, _ := three(t)
	want := []api.Word{head(api.TCell, 1), fix(10), head(api.TVector, 3), cell, word.Null, fix(12), head(api.TPair, 0)}
	for i, w := range want {
		if got := h.Word(i); got != w {
			t.Errorf("the word at %d is %#x, want %#x", i, got, w)
		}
	}
	for _, i := range outside() {
		if got := h.Word(i); got != 0 {
			t.Errorf("the word at %d is %#x", i, got)
		}
	}
}

// outside are places that are not used, of the heap that three lays.
func outside() []int {
	return []int{-1, -2, math.MinInt, 7, 8, 11, 12, 13, api.MaxHeap, 1 << 32, 1 << 40, math.MaxInt}
}

func TestPut(t *testing.T) {
	for i := range 7 {
		for _, w := range append(plain(), heads()...) {
			h, _, _, _ := three(t)
			want := stateOf(h).row
			h.Put(i, w)
			want[i] = w
			if got := stateOf(h); !slices.Equal(got.row, want) || got.used != 7 || got.room != 5 {
				t.Errorf("Put(%d, %#x): %v, want %v", i, w, got, want)
			}
		}
	}
	h, _, _, _ := three(t)
	before := stateOf(h)
	for _, i := range outside() {
		for _, w := range []api.Word{fix(1), pointer(0), head(api.TPair, 2)} {
			h.Put(i, w)
			expectState(t, h, before)
			if got := h.Word(i); got != 0 {
				t.Errorf("Put(%d, %#x): there is %#x", i, w, got)
			}
		}
	}
}

// What was put into a field is told of the field.
func TestPutIntoFields(t *testing.T) {
	h, _, vector, bare := three(t)
	h.Put(4, bare)
	expectGet(t, h, vector, api.TVector, 1, bare)
	h.Set(vector, api.TVector, 1, word.Eof)
	if w := h.Word(4); w != word.Eof {
		t.Errorf("the word at 4 is %#x", w)
	}
}

func TestCut(t *testing.T) {
	for n := range 8 {
		h, _, _, _ := three(t)
		want := stateOf(h).row[:n]
		h.Cut(n)
		if got := stateOf(h); got.used != n || got.room != 12-n || !slices.Equal(got.row, want) {
			t.Errorf("Cut(%d): %v", n, got)
		}
		for i := n; i <= 13; i++ {
			if w := h.Word(i); w != 0 {
				t.Errorf("Cut(%d): the word at %d is %#x", n, i, w)
			}
		}
	}
	h, _, _, _ := three(t)
	before := stateOf(h)
	for _, n := range outside() {
		if n == 7 {
			continue
		}
		h.Cut(n)
		expectState(t, h, before)
	}
	h.Cut(7)
	expectState(t, h, before)
	h.Cut(2)
	h.Cut(6) // not used any more
	if h.Used() != 2 {
		t.Errorf("%d used", h.Used())
	}
}

// What is laid behind a cut lies where the cut was, and has nothing of what lay there.
func TestLaidBehindACut(t *testing.T) {
	h, _, _, _ := three(t)
	h.Cut(2)
	p := mustFill(t, h, api.TString, 9, word.Null)
	expectModel(t, h, &model{words: 12, objects: []object{{api.TCell, []api.Word{fix(10)}}, {api.TString, slices.Repeat([]api.Word{word.Null}, 9)}}})
	h.Cut(0)
	if q := mustAlloc(t, h, api.TCell, fix(1)); p != pointer(2) || q != pointer(0) {
		t.Errorf("%#x, %#x", p, q)
	}
	expectModel(t, h, &model{words: 12, objects: []object{{api.TCell, []api.Word{fix(1)}}}})
}

// An object is moved as a collector does it: its words are put further ahead, and the rest is cut off.
func TestMoved(t *testing.T) {
	h, _, _, _ := three(t)
	for i := range 5 {
		h.Put(i, h.Word(i+2))
	}
	h.Cut(5)
	expectModel(t, h, &model{words: 12, objects: []object{{api.TVector, []api.Word{pointer(0), word.Null, fix(12)}}, {api.TPair, nil}}})
}

// Whoever puts heads where none were, or cuts through objects, harms nothing else: calls end without a panic, what is told and set are words that are used (R1).
func TestWildPutsAndCuts(t *testing.T) {
	r := rand.New(rand.NewSource(74))
	for range 2000 {
		n := 1 + r.Intn(20)
		h := mustNew(t, n)
		for range 40 {
			wildCall(r, h, n)
			before := stateOf(h)
			if before.used < 0 || before.used+before.room != n {
				t.Fatalf("%d used, %d not, of %d", before.used, before.room, n)
			}
			p, i, w := sampleWord(r, n), r.Intn(n+3)-1, sampleWord(r, n)
			got, err := h.Get(p, 0, i)
			if err == api.OK && !slices.Contains(before.row, got) {
				t.Fatalf("%#x is told, but no word of %v", got, before)
			}
			checkWildSet(t, h, before, h.Set(p, 0, i, w), w)
		}
	}
}

// wildCall changes a heap of n words somehow.
func wildCall(r *rand.Rand, h *heap.Heap, n int) {
	w := sampleWord(r, n)
	switch r.Intn(5) {
	case 0:
		h.Alloc(1+r.Intn(22), make([]api.Word, r.Intn(n+2))...)
	case 1:
		h.Fill(1+r.Intn(22), r.Intn(n+2), w)
	case 2:
		h.Put(r.Intn(n+2)-1, w)
	case 3:
		h.Put(r.Intn(n+2)-1, head(1+r.Intn(255), r.Intn(n+2)))
	case 4:
		h.Cut(r.Intn(n+3) - 1)
	}
	h.Kind(w)
	h.Size(w)
}

// checkWildSet holds that what was refused changed nothing, and that else no more than one word is another one: the one that was set.
func checkWildSet(t *testing.T, h *heap.Heap, before state, err api.Errno, w api.Word) {
	t.Helper()
	after := stateOf(h)
	if err != api.OK {
		if !after.is(before) {
			t.Fatalf("refused with %d: it was %v, and is %v", err, before, after)
		}
		return
	}
	changed := 0
	for i := range after.row {
		if after.row[i] != before.row[i] {
			changed++
			if after.row[i] != w {
				t.Fatalf("%#x was set: it was %v, and is %v", w, before, after)
			}
		}
	}
	if changed > 1 || after.used != before.used || after.room != before.room {
		t.Fatalf("%#x was set: it was %v, and is %v", w, before, after)
	}
}

// A head that was put and says more fields than are used has those alone that are.
func TestHeadsThatSayTooMuch(t *testing.T) {
	for _, size := range []int{5, 12, api.MaxHeap, 1 << 40} {
		h, cell, _, _ := three(t)
		h.Put(2, head(api.TVector, size))
		w, err := h.Get(pointer(2), api.TVector, size-1)
		refused(t, "a field that is not used", w, err, api.ErrRange)
		if err := h.Set(pointer(2), api.TVector, size-1, fix(1)); err != api.ErrRange {
			t.Errorf("a field that is not used is set: %d", err)
		}
		expectGet(t, h, pointer(2), api.TVector, 0, cell)
	}
	h, cell, _, _ := three(t)
	h.Cut(1)
	w, err := h.Get(cell, api.TCell, 0)
	refused(t, "a field that was cut off", w, err, api.ErrRange)
	if err := h.Set(cell, api.TCell, 0, fix(1)); err != api.ErrRange || h.Used() != 1 {
		t.Errorf("a field that was cut off is set: %d", err)
	}
}
