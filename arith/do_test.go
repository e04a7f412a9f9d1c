package arith_test

import (
	"math/big"
	"math/rand"
	"testing"

	"athanor/api"
	"athanor/arith"
	"athanor/heap"
)

// Promise 11.3: Do, Room and Cmp.

// few are integers of both signs, in words and in objects, whose results are of all kinds: in words, in objects, too big.
func few() []*big.Int {
	var out []*big.Int
	for _, x := range []*big.Int{big.NewInt(1), big.NewInt(7), power(30), power(59), plus(power(60), -1), power(60), plus(power(64), 5), power(640), plus(power(1280), -1)} {
		out = append(out, x, minus(x))
	}
	return append(out, big.NewInt(0), plus(minus(power(60)), -1))
}

// heapOf is a heap with two integers, and so much room behind them.
func heapOf(t *testing.T, a, b *big.Int, room int) (h *heap.Heap, v, w api.Word) {
	t.Helper()
	h = mustNew(t, 1+need(a)+need(b)+room)
	mustAlloc(t, h, api.TRib)
	v, w = mustLay(t, h, a), mustLay(t, h, b)
	if h.Room() != room {
		t.Fatalf("room %d, want %d", h.Room(), room)
	}
	return h, v, w
}

// expectDone holds what Do and Room make of two integers where there is just room, where there is more, and where there is one word less.
func expectDone(t *testing.T, op int, a, b *big.Int) {
	t.Helper()
	want, wantErr := reckoned(op, a, b)
	words := 0
	if wantErr == api.OK {
		words = need(want)
	}
	for _, room := range []int{words - 1, words, words + 1, words + 50} {
		if room < 0 {
			continue
		}
		h, v, w := heapOf(t, a, b, room)
		before := row(h)
		if got := arith.Room(h, op, v, w); got != words {
			t.Fatalf("Room of op %d of %v, %v: %d, want %d", op, a, b, got, words)
		}
		expectRow(t, "Room", h, before)
		err := wantErr
		if room < words {
			err = api.ErrFull
		}
		expectDo(t, h, op, v, w, want, err)
	}
}

// expectDo holds what Do makes of two words, and tells it: a number's word, or an error with which nothing is changed.
func expectDo(t *testing.T, h *heap.Heap, op int, v, w api.Word, want *big.Int, wantErr api.Errno) api.Word {
	t.Helper()
	before := row(h)
	got, err := arith.Do(h, op, v, w)
	if err != wantErr {
		t.Fatalf("op %d of %#x, %#x: error %d, want %d", op, v, w, err, wantErr)
	}
	if err != api.OK {
		if got != 0 {
			t.Fatalf("op %d of %#x, %#x: %#x beside %d", op, v, w, got, err)
		}
		expectRow(t, "refused", h, before)
		return 0
	}
	expectRow(t, "done", h, append(before, laid(want)...))
	expectNumber(t, "done", h, got, want)
	if isFixed(want) && got != fix(int(want.Int64())) || !isFixed(want) && got != pointer(len(before)) {
		t.Fatalf("op %d of %#x, %#x: %#x", op, v, w, got)
	}
	return got
}

func TestDoOfEdges(t *testing.T) {
	for _, op := range ops() {
		for _, a := range few() {
			for _, b := range few() {
				expectDone(t, op, a, b)
			}
		}
	}
}

func TestDoOfManyLimbs(t *testing.T) {
	r := rand.New(rand.NewSource(112))
	for range 5000 {
		a, b := random(r, 1+r.Intn(api.MaxLimbs)), random(r, 1+r.Intn(4))
		expectDone(t, 1+r.Intn(6), a, b)
		expectDone(t, 1+r.Intn(6), b, a)
	}
}

// The chapter's examples.
func TestExamples(t *testing.T) {
	h := mustNew(t, 4)
	expectDo(t, h, arith.Modulo, fix(-7), fix(2), big.NewInt(1), api.OK)
	expectDo(t, h, arith.Remainder, fix(-7), fix(2), big.NewInt(-1), api.OK)
	expectDo(t, h, arith.Quotient, fix(1), fix(0), nil, api.ErrZero)
	if got := arith.Room(h, arith.Plus, fix(1<<59), fix(1<<59)); got != 4 {
		t.Errorf("Room: %d", got)
	}
	expectDo(t, h, arith.Plus, fix(1<<59), fix(1<<59), power(60), api.OK)
	if h.Used() != 4 || h.Word(0) != head(api.TBig, 3) {
		t.Errorf("%#x", row(h))
	}
}

// A result that is in Fix's bounds is a word, though both numbers are objects.
func TestResultsWithinFixesBounds(t *testing.T) {
	for _, c := range []struct {
		op   int
		a, b *big.Int
		want int
	}{
		{arith.Minus, power(60), power(60), 0}, {arith.Minus, plus(power(61), 5), power(61), 5},
		{arith.Plus, power(60), minus(plus(power(61), -1)), -1<<60 + 1}, {arith.Plus, plus(minus(power(60)), -1), big.NewInt(1), -1 << 60},
		{arith.Quotient, power(120), power(61), 1 << 59}, {arith.Quotient, power(120), minus(power(60)), -1 << 60},
		{arith.Remainder, plus(power(90), 7), power(80), 7}, {arith.Modulo, minus(plus(power(90), 7)), minus(power(80)), -7},
		{arith.Times, minus(power(59)), big.NewInt(2), -1 << 60},
	} {
		h, v, w := heapOf(t, c.a, c.b, 0)
		if got := expectDo(t, h, c.op, v, w, big.NewInt(int64(c.want)), api.OK); got != fix(c.want) {
			t.Errorf("op %d of %v, %v: %#x", c.op, c.a, c.b, got)
		}
	}
	h := mustNew(t, 4)
	expectDo(t, h, arith.Times, fix(-1<<60), fix(-1), power(60), api.OK)
	expectDo(t, h, arith.Quotient, fix(-1<<60), fix(-1), power(60), api.ErrFull)
}

// Where several errors apply, the one that is named first is told; Room is 0 with each but the want of room, which it is there to tell.
func TestOrderOfErrors(t *testing.T) {
	most := plus(power(1280), -1)
	h, big1, big2 := heapOf(t, most, power(640), 0)
	no := mustNew(t, 1) // words are no places there
	for _, c := range []struct {
		what string
		h    *heap.Heap
		op   int
		a, b api.Word
		want api.Errno
	}{
		{"op, types, nought", h, 7, 2, 3, api.ErrArg},
		{"op, type of the first", h, 0, 2, fix(0), api.ErrArg},
		{"op, type of the second", h, -1, fix(1), 2, api.ErrArg},
		{"op, nought, full", h, 7, big1, fix(0), api.ErrArg},
		{"op, too big", h, 100, big1, big1, api.ErrArg},
		{"types", h, arith.Plus, 2, 3, api.ErrType},
		{"type of the first, nought", h, arith.Quotient, 2, fix(0), api.ErrType},
		{"type of the first, nought", h, arith.Modulo, pointer(0), fix(0), api.ErrType},
		{"type of the second, full", h, arith.Plus, big1, 2, api.ErrType},
		{"types, objects elsewhere", no, arith.Times, big1, big2, api.ErrType},
		{"nought, full", h, arith.Quotient, big1, fix(0), api.ErrZero},
		{"nought, full", h, arith.Remainder, big1, fix(0), api.ErrZero},
		{"nought, full", h, arith.Modulo, big2, fix(0), api.ErrZero},
		{"nought by nought", h, arith.Modulo, fix(0), fix(0), api.ErrZero},
		{"too big, full", h, arith.Times, big2, big2, api.ErrBig},
		{"too big, full", h, arith.Plus, big1, fix(1), api.ErrBig},
		{"too big, full", h, arith.Minus, big1, fix(-1), api.ErrBig},
	} {
		expectDo(t, c.h, c.op, c.a, c.b, nil, c.want)
		if got := arith.Room(c.h, c.op, c.a, c.b); got != 0 {
			t.Errorf("%s: Room %d", c.what, got)
		}
	}
	expectDo(t, h, arith.Plus, big2, fix(1), nil, api.ErrFull)
	if got := arith.Room(h, arith.Plus, big2, fix(1)); got != 23 {
		t.Errorf("full: Room %d", got)
	}
	expectDo(t, h, arith.Minus, big1, big1, big.NewInt(0), api.OK)
}

// Each operation refuses what is no number, on either side and on both.
func TestDoOfNoNumbers(t *testing.T) {
	h := mustNew(t, 200)
	number := mustLay(t, h, power(70))
	others := append(noNumbers(), mustAlloc(t, h, api.TPair, fix(1), fix(2)), mustAlloc(t, h, api.TBig, fix(0), fix(5)), mustAlloc(t, h, api.TBig))
	for _, op := range append(ops(), noOps()...) {
		want := api.ErrType
		if op < 1 || op > 6 {
			want = api.ErrArg
		}
		for _, w := range others {
			for _, pair := range [][2]api.Word{{w, fix(1)}, {fix(1), w}, {w, number}, {number, w}, {w, fix(0)}, {fix(0), w}, {w, w}} {
				expectDo(t, h, op, pair[0], pair[1], nil, want)
				if got := arith.Room(h, op, pair[0], pair[1]); got != 0 {
					t.Fatalf("op %d of %#x, %#x: Room %d", op, pair[0], pair[1], got)
				}
			}
		}
	}
}

func TestDoOfNoOperations(t *testing.T) {
	h, v, w := heapOf(t, power(70), minus(power(80)), 100)
	for _, op := range noOps() {
		for _, pair := range [][2]api.Word{{v, w}, {fix(1), fix(2)}, {v, fix(0)}} {
			expectDo(t, h, op, pair[0], pair[1], nil, api.ErrArg)
			if got := arith.Room(h, op, pair[0], pair[1]); got != 0 {
				t.Fatalf("op %d: Room %d", op, got)
			}
		}
	}
}

// One object may be both numbers.
func TestDoOfOneObjectTwice(t *testing.T) {
	for _, op := range ops() {
		for _, x := range few() {
			want, err := reckoned(op, x, x)
			h := mustNew(t, 200)
			w := mustLay(t, h, x)
			expectDo(t, h, op, w, w, want, err)
			expectNumber(t, "as it was", h, w, x)
		}
	}
}

func TestCmp(t *testing.T) {
	all := edges()
	h := mustNew(t, 20000)
	var first, second []api.Word
	for _, x := range all {
		first, second = append(first, mustLay(t, h, x)), append(second, mustLay(t, h, x))
	}
	before := row(h)
	for i, a := range all {
		for j, b := range all {
			if got, err := arith.Cmp(h, first[i], second[j]); got != a.Cmp(b) || err != api.OK {
				t.Fatalf("Cmp(%v, %v): %d, %d", a, b, got, err)
			}
		}
		if got, err := arith.Cmp(h, first[i], first[i]); got != 0 || err != api.OK {
			t.Fatalf("Cmp(%v, itself): %d, %d", a, got, err)
		}
	}
	expectRow(t, "Cmp", h, before)
}

func TestCmpOfNoNumbers(t *testing.T) {
	h := mustNew(t, 200)
	number := mustLay(t, h, minus(power(70)))
	others := append(noNumbers(), pointer(1), mustAlloc(t, h, api.TVector, bigFields(power(70))...))
	for _, fields := range noIntegers() {
		if len(fields) < 10 {
			others = append(others, mustAlloc(t, h, api.TBig, fields...))
		}
	}
	before := row(h)
	for _, w := range others {
		for _, pair := range [][2]api.Word{{w, fix(1)}, {fix(1), w}, {w, number}, {number, w}, {w, w}} {
			if got, err := arith.Cmp(h, pair[0], pair[1]); got != 0 || err != api.ErrType {
				t.Fatalf("Cmp(%#x, %#x): %d, %d", pair[0], pair[1], got, err)
			}
		}
	}
	expectRow(t, "Cmp", h, before)
}
