package gc_test

import (
	"math/rand"
	"slices"
	"testing"

	"athanor/api"
	"athanor/gc"
	"athanor/heap"
	"athanor/word"
)

// Promise 8.2: what follows.

// Many heaps with many roots, held against the model, and against each thing that follows.
func TestAgainstTheModel(t *testing.T) {
	r := rand.New(rand.NewSource(84))
	some, none, all := 0, 0, 0
	for range 20000 {
		m := sampleModel(r)
		roots := sampleRoots(r, m)
		h := m.lay(t, 1+r.Intn(3))
		before := stateOf(h)
		live := gc.Live(h, roots...)
		got, _ := expectCollect(t, h, m, roots...)
		expectSameGraph(t, before, roots, h, got)
		expectUsed(t, h, live, got)
		expectNoChange(t, h, got)
		expectOrder(t, before, h, m, roots)
		switch {
		case h.Used() == 0:
			none++
		case h.Used() == before.used:
			all++
		default:
			some++
		}
	}
	if some < 2000 || none < 1000 || all < 1000 {
		t.Errorf("all live %d times, some %d times, none %d times", all, some, none)
	}
}

// expectSameGraph goes through what hung on the roots, and what hangs on those that were answered, side by side: each object there was has just one that there is, of the same type and size, and all words else are the same.
func expectSameGraph(t *testing.T, before state, roots []api.Word, h *heap.Heap, answered []api.Word) {
	t.Helper()
	to, from := map[api.Word]api.Word{}, map[api.Word]api.Word{}
	var pairs [][2]api.Word
	for i, w := range roots {
		pairs = append(pairs, [2]api.Word{w, answered[i]})
	}
	for len(pairs) > 0 {
		was, is := pairs[0][0], pairs[0][1]
		pairs = pairs[1:]
		if !slices.Contains(before.objects, was) {
			if is != was {
				t.Fatalf("%#x became %#x", was, is)
			}
			continue
		}
		if seen, ok := to[was]; ok {
			if seen != is {
				t.Fatalf("%#x became %#x, and %#x", was, seen, is)
			}
			continue
		}
		if other, ok := from[is]; ok {
			t.Fatalf("%#x and %#x became %#x", was, other, is)
		}
		to[was], from[is] = is, was
		at := int(was / 8)
		kind, size, _ := word.HeadOf(before.row[at])
		newKind, err := h.Kind(is)
		newSize, _ := h.Size(is)
		if kind != newKind || size != newSize || err != api.OK {
			t.Fatalf("%#x, of type %d and size %d, became %#x, of type %d and size %d, %d", was, kind, size, is, newKind, newSize, err)
		}
		for i := range size {
			w, _ := h.Get(is, kind, i)
			pairs = append(pairs, [2]api.Word{before.row[at+1+i], w})
		}
	}
	if len(to) != len(h.Objects()) {
		t.Fatalf("%d objects hang on the roots, but %d are there", len(to), len(h.Objects()))
	}
}

// expectUsed holds that what is used is what lived, and lives.
func expectUsed(t *testing.T, h *heap.Heap, live int, roots []api.Word) {
	t.Helper()
	if now := gc.Live(h, roots...); h.Used() != live || now != live {
		t.Fatalf("%d lived, %d are used, %d live", live, h.Used(), now)
	}
}

// expectNoChange holds that a second collection changes nothing.
func expectNoChange(t *testing.T, h *heap.Heap, roots []api.Word) {
	t.Helper()
	before := stateOf(h)
	if again := gc.Collect(h, roots...); !slices.Equal(again, roots) {
		t.Fatalf("roots %v became %v", roots, again)
	}
	expectState(t, h, before)
}

// expectOrder holds that the objects that are left lie in the order in which they lay: their heads, one by one, are those of the objects that lived.
func expectOrder(t *testing.T, before state, h *heap.Heap, m model, roots []api.Word) {
	t.Helper()
	var want, got []api.Word
	for n, lives := range m.lives(roots) {
		if lives {
			want = append(want, before.row[m.place(n)])
		}
	}
	for _, p := range h.Objects() {
		got = append(got, h.Word(int(p/8)))
	}
	if !slices.Equal(got, want) {
		t.Fatalf("%v lie there, want %v", got, want)
	}
}

// Objects that each have a number keep their order, whichever of them live, and in whatever order the roots say them.
func TestKeepsOrder(t *testing.T) {
	r := rand.New(rand.NewSource(85))
	for range 300 {
		h := mustNew(t, 400)
		var roots []api.Word
		for n := range 50 {
			p := mustFill(t, h, 1+n%22, 1+n%5, fix(n))
			if r.Intn(2) == 0 {
				roots = append(roots, p)
			}
		}
		r.Shuffle(len(roots), func(i, j int) { roots[i], roots[j] = roots[j], roots[i] })
		want := numbers(h, roots)
		got := gc.Collect(h, roots...)
		if !slices.Equal(numbers(h, got), want) {
			t.Fatalf("the roots say %v, want %v", numbers(h, got), want)
		}
		slices.Sort(want)
		if all := numbers(h, h.Objects()); !slices.Equal(all, want) {
			t.Fatalf("%v lie there, want %v", all, want)
		}
	}
}

// numbers are the first fields.
func numbers(h *heap.Heap, places []api.Word) []api.Word {
	var out []api.Word
	for _, p := range places {
		w, _ := h.Get(p, 0, 0)
		out = append(out, w)
	}
	return out
}

// A heap that is used on and on: objects are laid and set, roots change, and whenever there is no room it is collected.
func TestUsedOnAndOn(t *testing.T) {
	r := rand.New(rand.NewSource(86))
	collected := 0
	for range 100 {
		const words = 80
		h := mustNew(t, words)
		var m model
		roots := make([]api.Word, 3)
		for range 1000 {
			switch {
			case r.Intn(3) > 0:
				o := object{1 + r.Intn(22), make([]api.Word, r.Intn(4))}
				for i := range o.fields {
					o.fields[i] = sampleField(r, m)
				}
				if m.used()+1+len(o.fields) > words {
					roots, m = expectCollect(t, h, m, roots...)
					collected++
					continue
				}
				roots[r.Intn(3)] = mustAlloc(t, h, o.kind, o.fields...)
				m = append(m, o)
			case r.Intn(3) == 0:
				roots[r.Intn(3)] = sampleField(r, m)
			default:
				setBoth(t, r, h, m)
			}
		}
		expectCollect(t, h, m, roots...)
	}
	if collected < 1000 {
		t.Errorf("collected only %d times", collected)
	}
}

// setBoth sets some field, of a heap and of its model.
func setBoth(t *testing.T, r *rand.Rand, h *heap.Heap, m model) {
	t.Helper()
	p := samplePlace(r, m)
	n := m.find(p)
	if n < 0 || len(m[n].fields) == 0 {
		return
	}
	i, w := r.Intn(len(m[n].fields)), sampleField(r, m)
	if err := h.Set(p, m[n].kind, i, w); err != api.OK {
		t.Fatalf("Set(%#x, %d): %d", p, i, err)
	}
	m[n].fields[i] = w
}
