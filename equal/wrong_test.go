package equal_test

import (
	"math/rand"
	"slices"
	"testing"

	"athanor/api"
	"athanor/heap"
	"athanor/word"
)

// Wrong inputs: nil, heaps that New did not make, words that say no place that is there, heaps whose heads were put.

func TestHeapsWithoutObjects(t *testing.T) {
	var none *heap.Heap
	for name, h := range map[string]*heap.Heap{"nil": none, "not made": {}, "new": new(heap.Heap), "empty": mustNew(t, 10)} {
		words := append(all(), pointer(0), pointer(1), pointer(5))
		for i, a := range words {
			for j, b := range words {
				expect(t, h, name, a, b, i == j, i == j)
			}
		}
		if h.Used() != 0 {
			t.Errorf("%s: %d used", name, h.Used())
		}
	}
}

// Places that are no head's, that are not used any more, that never were: each is as itself alone, though it lies where one of two objects with the same fields was.
func TestPlacesThatAreNotThere(t *testing.T) {
	h := mustNew(t, 100)
	a := mustAlloc(t, h, api.TPair, fix(1), fix(1))
	mustAlloc(t, h, api.TPair, fix(1), fix(1))
	number := mustAlloc(t, h, api.TBig, bigFields(power(64))...)
	like := mustAlloc(t, h, api.TBig, bigFields(power(64))...)
	b := mustAlloc(t, h, api.TPair, fix(1), fix(1))
	expectAlike(t, h, "ahead of the cut", a, b)
	expectBoth(t, h, "ahead of the cut", number, like)
	h.Cut(int(like / 8))
	for _, w := range []api.Word{b, like, pointer(1), pointer(2), pointer(4), pointer(99), pointer(100)} {
		expectApart(t, h, "not there", a, w)
		expectApart(t, h, "not there", number, w)
		expectBoth(t, h, "itself", w, w)
	}
	expectApart(t, h, "both not there", b, like)
	expectApart(t, h, "fields", pointer(1), pointer(2))
	p, q := mustAlloc(t, h, api.TPair, pointer(1), pointer(99)), mustAlloc(t, h, api.TPair, pointer(1), pointer(99))
	expectAlike(t, h, "as fields", p, q)
	mustSet(t, h, q, 0, pointer(2))
	expectApart(t, h, "as fields", p, q)
}

// wildHeap is a heap after some wild calls.
func wildHeap(t *testing.T, r *rand.Rand) *heap.Heap {
	t.Helper()
	n := 1 + r.Intn(30)
	h := mustNew(t, n)
	for range 14 {
		wildCall(r, h, n)
	}
	return h
}

// wildCall changes a heap of n words somehow.
func wildCall(r *rand.Rand, h *heap.Heap, n int) {
	switch r.Intn(6) {
	case 0, 1:
		h.Fill(1+r.Intn(4), r.Intn(5), pointer(r.Intn(n+1)))
	case 2:
		h.Alloc(api.TBig, bigFields(power(60+r.Intn(5)))...)
	case 3:
		h.Put(r.Intn(n), []api.Word{pointer(r.Intn(n + 1)), fix(1), fix(0)}[r.Intn(3)])
	case 4:
		h.Put(r.Intn(n), head(1+r.Intn(6), []int{0, 1, 2, 3, n, 1 << 22, 1 << 40}[r.Intn(7)]))
	case 5:
		if r.Intn(3) == 0 {
			h.Cut(r.Intn(n + 1))
		}
	}
}

// Whoever puts heads where none were, or cuts through objects, sees what is made of it; but calls end without a panic, nothing is changed, and both are equalities there, too.
func TestWildHeaps(t *testing.T) {
	r := rand.New(rand.NewSource(106))
	for range 4000 {
		h := wildHeap(t, r)
		before := row(h)
		words := append(h.Objects(), word.Null, pointer(1<<40), head(1, 1<<40))
		for range 3 {
			words = append(words, pointer(r.Intn(h.Used()+h.Room()+2)))
		}
		laws(t, h, words)
		if got := row(h); !slices.Equal(got, before) {
			t.Fatalf("%#x, and was %#x", got, before)
		}
	}
}

// There, too, a collection changes nothing, if no word says a place that is not there (which may be there behind it).
func TestWildCollections(t *testing.T) {
	r := rand.New(rand.NewSource(107))
	for range 4000 {
		h := wildHeap(t, r)
		roots := h.Objects()
		for i := range h.Used() {
			if w := h.Word(i); w%8 == 1 && !slices.Contains(roots, w) {
				h.Put(i, word.Null)
			}
		}
		r.Shuffle(len(roots), func(i, j int) { roots[i], roots[j] = roots[j], roots[i] })
		expectKept(t, h, roots[:min(len(roots), 1+r.Intn(5))])
	}
}

// An object that a cut goes through has no more fields than are used: it is told apart of one that has all of them.
func TestCutThrough(t *testing.T) {
	for _, kind := range append(likeTypes(), api.TBig) {
		h := mustNew(t, 100)
		a := mustAlloc(t, h, kind, bigFields(power(99))...)
		b := mustAlloc(t, h, kind, bigFields(power(99))...)
		expect(t, h, "whole", a, b, kind == api.TBig, true)
		for h.Used() > int(b/8)+1 {
			h.Cut(h.Used() - 1)
			expectApart(t, h, "cut", a, b)
			expectBoth(t, h, "cut", b, b)
		}
		h.Cut(int(b / 8))
		expectApart(t, h, "cut off", a, b)
	}
}

// A size is what the head says: with another one objects are told apart, though no more fields are there.
func TestSizesThatHeadsSay(t *testing.T) {
	for _, kind := range likeTypes() {
		h := mustNew(t, 4)
		a, b := mustAlloc(t, h, kind, fix(1)), mustAlloc(t, h, kind, fix(1))
		for _, size := range []int{0, 2, 3, 1 << 40} {
			h.Put(2, head(kind, size))
			expectApart(t, h, "sizes", a, b)
		}
		h.Put(0, head(kind, 1<<40))
		expectAlike(t, h, "sizes", a, b)
	}
}

// Heads that were put so that objects fill what is used are objects as others are.
func TestHeadsThatWerePut(t *testing.T) {
	h := mustNew(t, 20)
	p := mustAlloc(t, h, api.TPair, fix(1), word.Null)
	mustAlloc(t, h, api.TVector, fix(0), fix(1), word.Null, fix(0), fix(1), word.Null)
	h.Put(3, head(api.TRib, 0))
	h.Put(4, head(api.TPair, 2))
	h.Put(7, head(api.TPair, 2))
	expectAlike(t, h, "put", pointer(4), pointer(7))
	expectAlike(t, h, "put", p, pointer(7))
	h.Put(9, word.True)
	expectApart(t, h, "put", p, pointer(7))
	h.Put(7, head(255, 2))
	h.Put(4, head(255, 2))
	h.Put(9, word.Null)
	expectApart(t, h, "types that no object has", pointer(4), pointer(7))
}

// Heads put everywhere that say more fields than there are: no word is two objects' field, so that it ends soon.
func TestHeadsEverywhere(t *testing.T) {
	const count = 50000
	for _, kind := range append(likeTypes(), api.TBig) {
		h := mustNew(t, 2*count)
		h.Fill(api.TVector, 2*count-1, word.Null)
		for n := range count {
			h.Put(2*n, head(kind, 1<<40))
			h.Put(2*n+1, pointer((2*n+2)%(2*count)))
		}
		follows := kind == api.TPair || kind == api.TVector
		expect(t, h, "a ring", pointer(0), pointer(2*count-2), false, follows)
		expect(t, h, "a ring", pointer(0), pointer(count), false, follows)
		h.Put(2*count-1, word.Null)
		expectApart(t, h, "no ring", pointer(0), pointer(2))
	}
}
