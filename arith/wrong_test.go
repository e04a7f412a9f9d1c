package arith_test

import (
	"math/big"
	"math/rand"
	"slices"
	"testing"

	"athanor/api"
	"athanor/arith"
	"athanor/heap"
	"athanor/limbs"
	"athanor/store"
	"athanor/word"
)

// Wrong inputs: nil, heaps that New did not make, integers that are not good, words that say no place that is there, heaps whose heads were put.

// A heap without words: numbers in words are numbers, and reckoned with; what needs an object has no room.
func TestHeapsWithoutWords(t *testing.T) {
	var none *heap.Heap
	for name, h := range map[string]*heap.Heap{"nil": none, "not made": {}, "new": new(heap.Heap)} {
		expectNumber(t, name, h, fix(-5), big.NewInt(-5))
		for _, w := range append(noNumbers(), pointer(0), pointer(1)) {
			expectNoNumber(t, name, h, w)
			expectDo(t, h, arith.Plus, w, fix(1), nil, api.ErrType)
			if n, err := arith.Cmp(h, fix(1), w); n != 0 || err != api.ErrType {
				t.Fatalf("%s: Cmp %d, %d", name, n, err)
			}
		}
		expectDo(t, h, arith.Times, fix(-5), fix(7), big.NewInt(-35), api.OK)
		expectDo(t, h, arith.Plus, fix(1<<59), fix(1<<59), nil, api.ErrFull)
		expectDo(t, h, arith.Modulo, fix(1), fix(0), nil, api.ErrZero)
		expectDo(t, h, 0, fix(1), fix(0), nil, api.ErrArg)
		if got := arith.Room(h, arith.Plus, fix(1<<59), fix(1<<59)); got != 4 {
			t.Errorf("%s: Room %d", name, got)
		}
		if n, err := arith.Cmp(h, fix(-1), fix(1)); n != -1 || err != api.OK {
			t.Errorf("%s: Cmp %d, %d", name, n, err)
		}
		for _, x := range edges() {
			w, err := arith.Lay(h, fromBig(x))
			if isFixed(x) && (w != fix(int(x.Int64())) || err != api.OK) || !isFixed(x) && (w != 0 || err != api.ErrFull) {
				t.Fatalf("%s: Lay(%v): %#x, %d", name, x, w, err)
			}
		}
		if h.Used() != 0 {
			t.Errorf("%s: %d used", name, h.Used())
		}
	}
}

// Integers that are not good are refused as by layer 1, and nothing is changed.
func TestIntegersThatAreNotGood(t *testing.T) {
	h := filled(t, 100)
	before := row(h)
	for _, x := range badIntegers() {
		kept := slices.Clone(x.Mag)
		if got := arith.Need(x); got != 0 {
			t.Errorf("Need: %d", got)
		}
		if w, err := arith.Lay(h, x); w != 0 || err != api.ErrArg {
			t.Errorf("Lay: %#x, %d", w, err)
		}
		for _, op := range append(ops(), noOps()...) {
			for _, pair := range [][2]api.Int{{x, x}, {x, limbs.From(-3)}, {limbs.From(3), x}, {x, {}}, {{}, x}} {
				if got, err := arith.Reckon(op, pair[0], pair[1]); err != api.ErrArg || !isZero(got) {
					t.Fatalf("op %d: %v, %d", op, got, err)
				}
			}
		}
		if !slices.Equal(x.Mag, kept) {
			t.Fatal("changed")
		}
	}
	expectRow(t, "not good", h, before)
}

// Places that are no head's, that are not used any more, that never were.
func TestPlacesThatAreNotThere(t *testing.T) {
	h := mustNew(t, 100)
	a := mustLay(t, h, power(64))
	b := mustLay(t, h, power(70))
	expectNumber(t, "ahead of the cut", h, b, power(70))
	h.Cut(int(b / 8))
	before := row(h)
	for _, w := range []api.Word{b, pointer(1), pointer(2), pointer(4), pointer(6), pointer(99), pointer(100), pointer(1 << 40)} {
		expectNoNumber(t, "not there", h, w)
		for _, op := range ops() {
			expectDo(t, h, op, a, w, nil, api.ErrType)
			expectDo(t, h, op, w, a, nil, api.ErrType)
			if got := arith.Room(h, op, a, w); got != 0 {
				t.Fatalf("Room %d", got)
			}
		}
		if n, err := arith.Cmp(h, a, w); n != 0 || err != api.ErrType {
			t.Fatalf("Cmp: %d, %d", n, err)
		}
	}
	expectRow(t, "not there", h, before)
	expectNumber(t, "still there", h, a, power(64))
}

// An object that a cut goes through has no more limbs than are used.
func TestCutThrough(t *testing.T) {
	h := mustNew(t, 100)
	x := plus(power(320), 0)
	for i := range 10 {
		x.Add(x, power(32*i))
	}
	p := mustLay(t, h, x)
	for count := 10; count >= 0; count-- {
		h.Cut(int(p/8) + 2 + count)
		x.And(x, plus(power(32*count), -1))
		if isFixed(x) {
			expectNoNumber(t, "cut", h, p)
		} else {
			expectNumber(t, "cut", h, p, x)
		}
	}
	for _, used := range []int{int(p/8) + 1, int(p / 8)} {
		h.Cut(used)
		expectNoNumber(t, "cut", h, p)
	}
}

// Heads that were put: limbs reach to the next head, whatever a head says.
func TestHeadsThatWerePut(t *testing.T) {
	h := mustNew(t, 100)
	h.Fill(api.TVector, 90, fix(1))
	expectNoNumber(t, "no head", h, pointer(10))
	h.Put(10, head(api.TBig, 4))
	x := plus(plus(power(64), 1), 1<<32)
	expectNumber(t, "put", h, pointer(10), minus(x))
	h.Put(11, fix(0))
	expectNumber(t, "put", h, pointer(10), x)
	h.Put(15, head(api.TBig, 1<<40))
	h.Put(10, head(api.TBig, 1<<40))
	expectNumber(t, "to the next head", h, pointer(10), x)
	expectNoNumber(t, "too many limbs", h, pointer(15))
	h.Put(14, head(api.TPair, 0))
	expectNoNumber(t, "in Fix's bounds", h, pointer(10))
	h.Put(11, head(api.TPair, 0))
	expectNoNumber(t, "a head as its sign", h, pointer(10))
	h.Put(10, head(255, 4))
	expectNoNumber(t, "a type that no object has", h, pointer(10))
}

// A head that says very many fields costs no more than an integer may have.
func TestVeryManyFields(t *testing.T) {
	h := mustNew(t, api.MaxHeap)
	p, err := h.Fill(api.TBig, api.MaxHeap-1, fix(1))
	if err != api.OK {
		t.Fatal(err)
	}
	for range 100000 {
		expectNoNumber(t, "very many", h, p)
	}
}

// wildHeap is a heap after some wild calls.
func wildHeap(t *testing.T, r *rand.Rand) *heap.Heap {
	t.Helper()
	n := 1 + r.Intn(60)
	h := mustNew(t, n)
	for range 14 {
		wildCall(r, h, n)
	}
	return h
}

// wildCall changes a heap of n words somehow.
func wildCall(r *rand.Rand, h *heap.Heap, n int) {
	switch r.Intn(6) {
	case 0:
		h.Fill(1+r.Intn(6), r.Intn(7), fix(r.Intn(2)))
	case 1, 2:
		h.Alloc(api.TBig, bigFields(random(r, 5))...)
	case 3:
		h.Put(r.Intn(n), []api.Word{pointer(r.Intn(n + 1)), fix(1), fix(0), fix(1 << 32), word.Null}[r.Intn(5)])
	case 4:
		h.Put(r.Intn(n), head(4+r.Intn(3), []int{0, 1, 2, 3, n, 1 << 22, 1 << 40}[r.Intn(7)]))
	case 5:
		if r.Intn(3) == 0 {
			h.Cut(r.Intn(n + 1))
		}
	}
}

// There, too, a number is what store shows as an integer, all goes by the integers, and what is refused changes nothing.
func TestWildHeaps(t *testing.T) {
	r := rand.New(rand.NewSource(117))
	numbers := 0
	for range 6000 {
		h := wildHeap(t, r)
		words := append(h.Objects(), fix(0), fix(-1), word.Null, pointer(1<<40), head(api.TBig, 1<<40))
		for range 3 {
			words = append(words, pointer(r.Intn(h.Used()+h.Room()+2)))
		}
		shown := map[api.Word]*big.Int{}
		for _, w := range words {
			shown[w] = shownAs(t, h, w)
			if shown[w] == nil {
				expectNoNumber(t, "wild", h, w)
			} else {
				expectNumber(t, "wild", h, w, shown[w])
				numbers++
			}
		}
		for range 10 {
			expectWild(t, r, h, words, shown)
		}
	}
	if numbers < 15000 {
		t.Errorf("only %d numbers", numbers)
	}
}

// shownAs is the integer as which store shows a word; nil, if it shows something else.
func shownAs(t *testing.T, h *heap.Heap, w api.Word) *big.Int {
	t.Helper()
	n := store.Show(h, nil, w).Nodes[0]
	if n.Kind != api.GInt {
		return nil
	}
	x, ok := new(big.Int).SetString(n.Text, 10)
	if !ok {
		t.Fatalf("shown as %v", n)
	}
	return x
}

// expectWild holds what is made of two of some words, and undoes it.
func expectWild(t *testing.T, r *rand.Rand, h *heap.Heap, words []api.Word, shown map[api.Word]*big.Int) {
	t.Helper()
	op, v, w := r.Intn(8), words[r.Intn(len(words))], words[r.Intn(len(words))]
	a, b := shown[v], shown[w]
	end := h.Used()
	var want *big.Int
	err := api.ErrType
	switch {
	case op < 1 || op > 6:
		err = api.ErrArg
	case a != nil && b != nil:
		want, err = reckoned(op, a, b)
	}
	if err == api.OK && need(want) > h.Room() {
		err = api.ErrFull
	}
	if err != api.OK {
		expectDo(t, h, op, v, w, nil, err)
		return
	}
	if got := arith.Room(h, op, v, w); got != need(want) {
		t.Fatalf("Room: %d, want %d", got, need(want))
	}
	expectDo(t, h, op, v, w, want, api.OK)
	h.Cut(end)
}
