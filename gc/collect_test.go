package gc_test

import (
	"math/rand"
	"slices"
	"testing"

	"athanor/api"
	"athanor/gc"
	"athanor/word"
)

// Promise 8.1: Collect and Live, on ordinary heaps, and at the edges that the chapter names.

// The chapter's example.
func TestThreePairs(t *testing.T) {
	h := mustNew(t, 20)
	mustAlloc(t, h, api.TPair, fix(1), word.Null)
	second := mustAlloc(t, h, api.TPair, pointer(6), fix(2))
	mustAlloc(t, h, api.TPair, fix(3), word.Eof)
	if n := gc.Live(h, second); n != 6 {
		t.Errorf("%d live", n)
	}
	if got := gc.Collect(h, second); !slices.Equal(got, []api.Word{pointer(0)}) {
		t.Errorf("answered %v", got)
	}
	want := []api.Word{head(api.TPair, 2), pointer(3), fix(2), head(api.TPair, 2), fix(3), word.Eof}
	if got := stateOf(h); !slices.Equal(got.row, want) || got.room != 14 {
		t.Errorf("%v, want %v", got, want)
	}
}

// Each choice of objects that live, of all types, with no field, one and many: at the front, between others, at the end.
func TestWhichLive(t *testing.T) {
	for first := 1; first <= 22; first++ {
		var m model
		for n, size := range []int{0, 1, 2, 0, 7, 3} {
			m = append(m, object{(first+n*5)%22 + 1, slices.Repeat([]api.Word{fix(first*10 + n)}, size)})
		}
		for choice := range 1 << len(m) {
			var roots []api.Word
			for n := range m {
				if choice>>n&1 == 1 {
					roots = append(roots, pointer(m.place(n)))
				}
			}
			_, kept := expectCollect(t, m.lay(t, 5), m, roots...)
			if len(kept) != len(roots) {
				t.Fatalf("%d roots, but %v is left", len(roots), kept)
			}
		}
	}
}

// Words of all kinds are fields, and are as they were, wherever the object slides to.
func TestOtherWordsStay(t *testing.T) {
	m := model{{api.TString, []api.Word{fix(1), fix(2)}}, {api.TVector, plain()}, {api.TCell, []api.Word{word.Null}}}
	h := m.lay(t, 0)
	expectCollect(t, h, m, pointer(3))
	for i, w := range plain() {
		if got, err := h.Get(pointer(0), api.TVector, i); got != w || err != api.OK {
			t.Errorf("field %d is %#x, %d, want %#x", i, got, err, w)
		}
	}
}

// A field says where another object lies, be it ahead or behind, near or far, and says its new place afterwards.
func TestFieldsThatSayPlaces(t *testing.T) {
	m := model{
		{api.TBytes, []api.Word{fix(1)}},                         // 0: dead
		{api.TPair, []api.Word{pointer(13), pointer(9)}},         // 2: to both behind it
		{api.TBig, []api.Word{pointer(2), pointer(5), fix(2)}},   // 5: dead, though it says those that live
		{api.TCell, []api.Word{pointer(2)}},                      // 9: back to the first one
		{api.TCell, []api.Word{pointer(5)}},                      // 11: dead
		{api.TVector, []api.Word{pointer(9), fix(3), word.Null}}, // 13: back
		{api.TTable, nil}, // 17: dead
	}
	for _, root := range []int{2, 9, 13} {
		h := m.lay(t, 3)
		_, kept := expectCollect(t, h, m, pointer(root))
		want := model{{api.TPair, []api.Word{pointer(5), pointer(3)}}, {api.TCell, []api.Word{pointer(0)}}, {api.TVector, []api.Word{pointer(3), fix(3), word.Null}}}
		if !slices.Equal(kept.row(), want.row()) || !slices.Equal(stateOf(h).row, want.row()) {
			t.Errorf("root %d: %v, want %v", root, stateOf(h), want)
		}
	}
}

func TestNoObjects(t *testing.T) {
	for _, n := range []int{1, 2, 100, api.MaxHeap} {
		roots := append(append(plain(), heads()...), pointer(0), pointer(1), pointer(n-1), pointer(n), pointer(n+1), pointer(1<<40))
		expectCollect(t, mustNew(t, n), nil)
		expectCollect(t, mustNew(t, n), nil, roots...)
		h := mustNew(t, n)
		mustFill(t, h, api.TVector, n-1, pointer(0))
		h.Cut(0) // the words are still those that were laid, but not used
		expectCollect(t, h, nil, roots...)
	}
}

func TestNoRoots(t *testing.T) {
	r := rand.New(rand.NewSource(81))
	for range 200 {
		m := sampleModel(r)
		h := m.lay(t, 1)
		expectCollect(t, h, m)
		if h.Used() != 0 || h.Room() != m.used()+1 || len(h.Objects()) != 0 {
			t.Fatalf("%v: %v", m, stateOf(h))
		}
	}
}

// Roots that are all objects, in whatever order: nothing moves.
func TestAllAreRoots(t *testing.T) {
	r := rand.New(rand.NewSource(82))
	for range 200 {
		m := sampleModel(r)
		h := m.lay(t, 1)
		before := stateOf(h)
		roots := h.Objects()
		r.Shuffle(len(roots), func(i, j int) { roots[i], roots[j] = roots[j], roots[i] })
		got, _ := expectCollect(t, h, m, roots...)
		expectState(t, h, before)
		if !slices.Equal(got, roots) {
			t.Fatalf("roots %v, answered %v", roots, got)
		}
	}
}

// Roots are answered one by one, as often and in the order in which they were handed in.
func TestRootsOneByOne(t *testing.T) {
	m := model{{api.TCell, []api.Word{fix(1)}}, {api.TPair, []api.Word{fix(2), fix(3)}}, {api.TCell, []api.Word{fix(4)}}, {api.TRib, nil}}
	h := m.lay(t, 4)
	got, _ := expectCollect(t, h, m, pointer(7), word.Null, pointer(2), pointer(7), fix(2), pointer(2), pointer(2), pointer(1), pointer(3), pointer(100))
	want := []api.Word{pointer(3), word.Null, pointer(0), pointer(3), fix(2), pointer(0), pointer(0), pointer(1), pointer(3), pointer(100)}
	if !slices.Equal(got, want) {
		t.Errorf("answered %v, want %v", got, want)
	}
}

// nowhere are words that say no place that is there, of a heap of 12 words with a cell at 0, a vector of three at 2, a table without fields at 6; 7 are used.
func nowhere() []api.Word {
	out := append(plain(), heads()...)
	for _, at := range []int{1, 3, 4, 5, 7, 8, 11, 12, 13, 1000, api.MaxHeap - 1, api.MaxHeap, 1 << 32, 1<<32 + 2, 1 << 40} {
		out = append(out, pointer(at))
	}
	return append(out, fix(2), fix(6), head(api.TCell, 1), head(api.TVector, 3), head(api.TTable, 0))
}

// Roots that say no place, a place that is no head's, a place that is not used: they let nothing live and stay what they were.
func TestRootsThatSayNothing(t *testing.T) {
	m := model{{api.TCell, []api.Word{fix(10)}}, {api.TVector, []api.Word{fix(1), pointer(0), word.Null}}, {api.TTable, nil}}
	for _, w := range nowhere() {
		_, kept := expectCollect(t, m.lay(t, 5), m, w)
		if len(kept) != 0 {
			t.Errorf("the root %#x lets %v live", w, kept)
		}
		got, kept := expectCollect(t, m.lay(t, 5), m, w, pointer(6), w)
		if len(kept) != 1 || !slices.Equal(got, []api.Word{w, pointer(0), w}) {
			t.Errorf("the root %#x: %v live, answered %v", w, kept, got)
		}
	}
}

// Fields that say such places, likewise.
func TestFieldsThatSayNothing(t *testing.T) {
	for _, w := range nowhere() {
		if _, _, ok := word.HeadOf(w); ok {
			continue
		}
		m := model{{api.TCell, []api.Word{w}}, {api.TVector, []api.Word{w, pointer(6), w}}, {api.TTable, nil}}
		_, kept := expectCollect(t, m.lay(t, 5), m, pointer(2))
		if want := (model{{api.TVector, []api.Word{w, pointer(4), w}}, {api.TTable, nil}}); !slices.Equal(kept.row(), want.row()) {
			t.Errorf("the field %#x: %v, want %v", w, kept, want)
		}
	}
}

// Objects that lay there once, behind a cut, are not there any more, and their words are none of the heap's.
func TestCutOffObjects(t *testing.T) {
	m := model{{api.TCell, []api.Word{pointer(2)}}, {api.TPair, []api.Word{fix(1), pointer(5)}}, {api.TCell, []api.Word{pointer(0)}}}
	h := m.lay(t, 2)
	h.Cut(2)
	roots, kept := expectCollect(t, h, m[:1], pointer(2), pointer(0), pointer(5))
	if len(kept) != 1 || !slices.Equal(roots, []api.Word{pointer(2), pointer(0), pointer(5)}) {
		t.Errorf("%v, %v", kept, roots)
	}
}

// What is handed in is not changed, what lies behind its end neither; what is handed out is new memory (R4).
func TestHandedInAndOut(t *testing.T) {
	m := model{{api.TCell, []api.Word{fix(1)}}, {api.TCell, []api.Word{fix(2)}}, {api.TCell, []api.Word{fix(3)}}}
	h := m.lay(t, 0)
	all := []api.Word{pointer(2), fix(7), pointer(4), pointer(2), word.True}
	handed := slices.Clone(all)
	if n := gc.Live(h, all[:2]...); n != 2 || !slices.Equal(all, handed) {
		t.Errorf("Live: %d, handed in %v", n, all)
	}
	got := gc.Collect(h, all[:2]...)
	if !slices.Equal(got, []api.Word{pointer(0), fix(7)}) || !slices.Equal(all, handed) {
		t.Fatalf("answered %v, handed in %v", got, all)
	}
	before := stateOf(h)
	again := gc.Collect(h, got...)
	all[0], got[1] = word.Eof, word.Eof
	got = append(got, word.Void)
	if !slices.Equal(again, []api.Word{pointer(0), fix(7)}) || all[1] != fix(7) || all[2] != pointer(4) || got[0] != pointer(0) {
		t.Errorf("%v, %v and %v share memory", all, got, again)
	}
	expectState(t, h, before)
}

func TestLiveChangesNothing(t *testing.T) {
	r := rand.New(rand.NewSource(83))
	for range 300 {
		m := sampleModel(r)
		h := m.lay(t, 2)
		before := stateOf(h)
		for range 5 {
			roots := sampleRoots(r, m)
			handed := slices.Clone(roots)
			first, second := gc.Live(h, roots...), gc.Live(h, roots...)
			if want := m.live(roots); first != want || second != want || !slices.Equal(roots, handed) {
				t.Fatalf("%v, roots %v: %d, then %d, want %d", m, roots, first, second, want)
			}
			expectState(t, h, before)
		}
	}
}
