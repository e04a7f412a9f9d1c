package arith_test

import (
	"math/big"
	"slices"
	"testing"

	"athanor/api"
	"athanor/arith"
	"athanor/heap"
)

// Promise 11.1: Need and Lay.

func TestNeed(t *testing.T) {
	for _, c := range []struct {
		x    *big.Int
		want int
	}{
		{big.NewInt(0), 0}, {big.NewInt(-1), 0},
		{plus(power(60), -1), 0}, {power(60), 4}, {minus(power(60)), 0}, {plus(minus(power(60)), -1), 4},
		{plus(power(64), -1), 4}, {power(64), 5}, {minus(power(64)), 5}, {power(96), 6},
		{plus(power(1248), -1), 41}, {power(1248), 42}, {plus(power(1280), -1), 42}, {minus(plus(power(1280), -1)), 42},
	} {
		if got := arith.Need(fromBig(c.x)); got != c.want {
			t.Errorf("Need(%v): %d, want %d", c.x, got, c.want)
		}
	}
	for _, x := range edges() {
		if got := arith.Need(fromBig(x)); got != need(x) {
			t.Errorf("Need(%v): %d", x, got)
		}
	}
}

// laid is the words that an integer's object has.
func laid(x *big.Int) []api.Word {
	if isFixed(x) {
		return nil
	}
	return append([]api.Word{head(api.TBig, need(x)-1)}, bigFields(x)...)
}

// filled is a heap with just so much room, behind a first object.
func filled(t *testing.T, room int) *heap.Heap {
	t.Helper()
	h := mustNew(t, 3+room)
	mustAlloc(t, h, api.TPair, fix(1), fix(2))
	return h
}

func TestLay(t *testing.T) {
	for _, x := range edges() {
		for _, more := range []int{0, 1, 100} {
			h := filled(t, need(x)+more)
			before := row(h)
			w, err := arith.Lay(h, fromBig(x))
			if err != api.OK {
				t.Fatalf("Lay(%v): %d", x, err)
			}
			expectRow(t, "laid", h, append(before, laid(x)...))
			if isFixed(x) && w != fix(int(x.Int64())) || !isFixed(x) && w != pointer(3) {
				t.Fatalf("Lay(%v): %#x", x, w)
			}
			expectNumber(t, "laid", h, w, x)
		}
	}
}

// One word short, and without any room: nothing is laid, but what needs nothing has its word.
func TestLayWithoutRoom(t *testing.T) {
	for _, x := range edges() {
		for _, room := range []int{need(x) - 1, need(x) - 2, 0} {
			h := filled(t, max(room, 0))
			before := row(h)
			w, err := arith.Lay(h, fromBig(x))
			expectRow(t, "no room", h, before)
			if isFixed(x) {
				if w != fix(int(x.Int64())) || err != api.OK {
					t.Fatalf("Lay(%v): %#x, %d", x, w, err)
				}
			} else if w != 0 || err != api.ErrFull {
				t.Fatalf("Lay(%v) with room for %d: %#x, %d", x, room, w, err)
			}
		}
	}
}

// One behind the other, until there is no room.
func TestLayToTheEnd(t *testing.T) {
	h := mustNew(t, 43)
	for n := range 10 {
		if w, err := arith.Lay(h, fromBig(power(60))); w != pointer(4*n) || err != api.OK {
			t.Fatalf("%d: %#x, %d", n, w, err)
		}
	}
	if w, err := arith.Lay(h, fromBig(power(60))); w != 0 || err != api.ErrFull || h.Used() != 40 {
		t.Fatalf("%#x, %d, %d used", w, err, h.Used())
	}
	for n := range 10 {
		expectNumber(t, "laid ahead", h, pointer(4*n), power(60))
	}
}

func TestLayInTheGreatestHeap(t *testing.T) {
	h := mustNew(t, api.MaxHeap)
	h.Fill(api.TVector, api.MaxHeap-1-42, fix(0))
	x := plus(minus(power(1280)), 1)
	w := mustLay(t, h, x)
	if h.Room() != 0 || w != pointer(api.MaxHeap-42) {
		t.Fatalf("%#x, room %d", w, h.Room())
	}
	expectNumber(t, "at the end", h, w, x)
}

// What is handed in is neither changed nor kept, nor is what lies behind its end.
func TestLayKeepsNothing(t *testing.T) {
	h := mustNew(t, 100)
	for _, x := range []*big.Int{big.NewInt(5), power(60), minus(power(90))} {
		in := fromBig(x)
		tail := append(slices.Clone(in.Mag), 0xdead, 0xbeef)
		in.Mag = tail[:len(in.Mag)]
		want := slices.Clone(tail)
		arith.Need(in)
		w, err := arith.Lay(h, in)
		if err != api.OK || !slices.Equal(tail, want) {
			t.Fatalf("%d: %v, and was %v", err, tail, want)
		}
		scribble(in)
		expectNumber(t, "laid", h, w, x)
	}
}
