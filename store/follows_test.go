package store_test

import (
	"math/rand"
	"slices"
	"strings"
	"testing"

	"athanor/api"
	"athanor/gc"
	"athanor/graph"
	"athanor/heap"
	"athanor/read"
	"athanor/store"
	"athanor/word"
)

// Promise 9.4: what was put is shown, and no collection changes what is shown; 9.3 by many heaps, held against the chapter written out a second time.

// Whatever was laid ahead, and whatever is laid behind.
func TestPutIsShown(t *testing.T) {
	r := rand.New(rand.NewSource(95))
	for range 1500 {
		h, table := mustNew(t, 6000), store.NewNames()
		var all []api.Graph
		var roots [][]api.Word
		for range 6 {
			h.Fill(1+r.Intn(22), r.Intn(5), pointer(r.Intn(30)))
			g := sampleGraph(r, 12)
			all = append(all, g)
			roots = append(roots, mustPut(t, h, table, g))
		}
		for i, g := range all {
			shown := store.Show(h, table, roots[i]...)
			expectGraph(t, "shown", shown, canonOf(g))
			if !graph.Same(shown, g) {
				t.Fatalf("not the same:\n%s%s", tell(g), tell(shown))
			}
		}
	}
}

// Sources that are read are laid, shown, and laid again as just the same words.
func TestSourcesAreShown(t *testing.T) {
	h, table := mustNew(t, 4000), store.NewNames()
	for _, s := range []string{
		"", "a", "()", "(1 . 1)", "#0=(a 12345678901234567890 #\\x . #0#)", "#(\"text\" #u8(1 2) () #t)", "(define (f n) (if (= n 0) 1 (* n (f (- n 1)))))",
		"(#0=\"é€\" #0# #1=#(#1# #0#)) -1152921504606846977 -1152921504606846976", "'(a `(b ,c ,@d)) #() #u8() \"\"", "#0=(#0# . #0#) #\\x10ffff #f",
	} {
		g, err, _ := read.Read([]byte(s))
		if err != api.OK {
			t.Fatal(s, err)
		}
		first := mustPut(t, h, table, g)
		shown := store.Show(h, table, first...)
		expectGraph(t, s, shown, g) // it is in the order of Canon already
		before := h.Used()
		second := mustPut(t, h, table, shown)
		expectGraph(t, s, store.Show(h, table, second...), g)
		if h.Used()-before != store.Need(g) {
			t.Errorf("%s: %d words, want %d", s, h.Used()-before, store.Need(g))
		}
	}
}

// sampleObjects are some objects of all types, with fields that are as they should be more often than not; a table's texts are two names, and such as no node has.
func sampleObjects(r *rand.Rand) (objects, names) {
	all := make(objects, r.Intn(12))
	for n := range all {
		all[n] = object{sampleType(r), make([]api.Word, r.Intn(4))}
		if size, ok := map[int]int{api.TPair: 2, api.TCond: 3, api.TBig: 3}[all[n].kind]; ok && r.Intn(5) > 0 {
			all[n].fields = make([]api.Word, size)
		}
	}
	for _, o := range all {
		for i := range o.fields {
			o.fields[i] = sampleField(r, all, o.kind, i)
		}
	}
	return all, names{"a", "", "\xff", "point"}
}

func sampleType(r *rand.Rand) int {
	if r.Intn(2) == 0 {
		return []int{api.TPair, api.TVector, api.TRecord, api.TRecType, api.TBig, api.TCond}[r.Intn(6)]
	}
	return 1 + r.Intn(22)
}

func sampleField(r *rand.Rand, all objects, kind, i int) api.Word {
	if r.Intn(10) == 0 {
		kind = r.Intn(23)
	}
	switch {
	case kind == api.TString:
		return charWord('a' + r.Intn(3))
	case kind == api.TBytes:
		return fix([]int{0, 255, 256, -1}[r.Intn(4)])
	case kind == api.TBig:
		return fix([]int{0, 1, 1 << 28, 1<<32 - 1}[r.Intn(4)])
	case kind == api.TCond && i == 0:
		return fix(r.Intn(4))
	case kind == api.TRecType && i == 0:
		return nameWord(r.Intn(5))
	case r.Intn(3) == 0:
		plain := append(silent(), word.Null, word.True, word.Eof, fix(0), fix(-7), charWord('x'), nameWord(0), nameWord(1), nameWord(2), nameWord(3), nameWord(4), primWord(0), primWord(1))
		return plain[r.Intn(len(plain))]
	}
	return pointer(all.place(r.Intn(len(all))))
}

// sampleRoots are words that say objects' places, or no places.
func sampleRoots(r *rand.Rand, all objects) []api.Word {
	var out []api.Word
	for range r.Intn(5) {
		if len(all) > 0 {
			out = append(out, sampleField(r, all, 0, 0))
		}
	}
	return out
}

// laid are objects in a heap that has room for one more, and names.
func laid(t *testing.T, all objects, texts names) (*heap.Heap, *store.Names) {
	t.Helper()
	h, table := mustNew(t, all.place(len(all))+1), store.NewNames()
	for _, o := range all {
		mustAlloc(t, h, o.kind, o.fields...)
	}
	for _, s := range texts {
		table.Id(s)
	}
	return h, table
}

func TestShowAgainstTheModel(t *testing.T) {
	r := rand.New(rand.NewSource(96))
	seen := map[int]int{}
	for range 30000 {
		all, texts := sampleObjects(r)
		h, table := laid(t, all, texts)
		roots := sampleRoots(r, all)
		if r.Intn(4) == 0 {
			roots = append(roots, pointer(r.Intn(all.place(len(all))+3)))
		}
		want := all.showOf(texts, roots)
		expectShow(t, h, table, want, roots...)
		for _, n := range want.Nodes {
			seen[n.Kind]++
		}
	}
	for kind := api.GNull; kind <= api.GPort; kind++ {
		if seen[kind] < 300 {
			t.Errorf("kind %d only %d times", kind, seen[kind])
		}
	}
}

// A collection changes nothing of what is shown, whatever types lie there.
func TestCollectionsChangeNothing(t *testing.T) {
	r := rand.New(rand.NewSource(97))
	moved := 0
	for range 10000 {
		all, texts := sampleObjects(r)
		h, table := laid(t, all, texts)
		roots := sampleRoots(r, all) // a place that is not there might be an object's behind the collection
		want := store.Show(h, table, roots...)
		got := gc.Collect(h, roots...)
		expectShow(t, h, table, want, got...)
		if !slices.Equal(got, roots) {
			moved++
		}
	}
	if moved < 1000 {
		t.Errorf("something moved only %d times", moved)
	}
}

// A heap that is used on and on: graphs are put and forgotten, and whenever there is no room it is collected.
func TestUsedOnAndOn(t *testing.T) {
	r := rand.New(rand.NewSource(98))
	collected := 0
	for range 100 {
		h, table := mustNew(t, 150), store.NewNames()
		var graphs [4]api.Graph
		var roots [4][]api.Word
		for range 100 {
			i := r.Intn(4)
			g := sampleGraph(r, 10)
			words, err := store.Put(h, table, g)
			if err == api.ErrFull {
				roots = collect(h, roots)
				collected++
				words, err = store.Put(h, table, g)
			}
			if err == api.OK {
				graphs[i], roots[i] = g, words
			}
			for i, g := range graphs {
				expectGraph(t, "shown", store.Show(h, table, roots[i]...), canonOf(g))
			}
		}
	}
	if collected < 100 {
		t.Errorf("collected only %d times", collected)
	}
}

// collect collects a heap with lists of roots.
func collect(h *heap.Heap, roots [4][]api.Word) [4][]api.Word {
	all := gc.Collect(h, slices.Concat(roots[:]...)...)
	for i := range roots {
		n := len(roots[i])
		roots[i], all = all[:n], all[n:]
	}
	return roots
}

// A list as long as the greatest heap allows, and one that goes down by its cars: as deep as it is long.
func TestLongLists(t *testing.T) {
	const count = api.MaxHeap / 3
	for car := range 2 {
		g := api.Graph{Roots: []int{0}}
		for n := range count {
			kids := []int{count, n + 1}
			g.Nodes = append(g.Nodes, pair(kids[1-car], kids[car]))
		}
		g.Nodes = append(g.Nodes, null())
		h, table := mustNew(t, api.MaxHeap), store.NewNames()
		if need := store.Need(g); need != 3*count {
			t.Fatalf("Need: %d", need)
		}
		roots := mustPut(t, h, table, g)
		if !slices.Equal(roots, []api.Word{pointer(0)}) || h.Used() != 3*count {
			t.Fatalf("%d used, roots %v", h.Used(), roots)
		}
		if !graph.Same(store.Show(h, table, roots...), g) {
			t.Error("not the same")
		}
		if words, err := store.Put(mustNew(t, 3*count-1), table, g); len(words) != 0 || err != api.ErrFull {
			t.Errorf("%d in a heap that is one word too small", err)
		}
	}
}

// One object that fills the greatest heap, and very many roots.
func TestGreatest(t *testing.T) {
	h := mustNew(t, api.MaxHeap)
	p, _ := h.Fill(api.TValues, api.MaxHeap-1, word.Null)
	g := store.Show(h, nil, slices.Repeat([]api.Word{p, word.Null}, 100000)...)
	if len(g.Nodes) != 2 || len(g.Nodes[0].Kids) != api.MaxHeap-1 || len(g.Roots) != 200000 || g.Roots[199998] != 0 || g.Roots[199999] != 1 {
		t.Errorf("%d nodes, %d roots", len(g.Nodes), len(g.Roots))
	}
	for _, kind := range []int{api.TVector, api.TString, api.TBytes, api.TBig, api.TPair, api.TCond, api.TRecord} {
		h.Cut(0)
		p, _ := h.Fill(kind, api.MaxHeap-1, fix(0))
		expectGraph(t, "shown", store.Show(h, nil, p), one(void()))
	}
}

// Whoever puts heads where none were, or cuts through objects, sees what is made of it; but calls end without a panic, what is shown is a good graph, and nothing is changed.
func TestWildHeaps(t *testing.T) {
	r := rand.New(rand.NewSource(99))
	for range 5000 {
		h, table := wildHeap(t, r)
		var roots []api.Word
		for range r.Intn(4) {
			roots = append(roots, pointer(r.Intn(h.Used()+h.Room()+2)))
		}
		before := stateOf(h, table)
		got := store.Show(h, table, roots...)
		expectState(t, h, table, before)
		if !graph.Good(got) || len(got.Roots) != len(roots) {
			t.Fatalf("%#x, roots %#x:\n%s", before.row, roots, tell(got))
		}
		expectGraph(t, "Canon", got, graph.Canon(got))
		g := sampleGraph(r, 4)
		if words, err := store.Put(h, table, g); err == api.OK {
			expectGraph(t, "put", store.Show(h, table, words...), canonOf(g))
		}
	}
}

// There, too, a collection changes nothing of what is shown, if no word says a place that is not there (which may be there behind it).
func TestWildCollections(t *testing.T) {
	r := rand.New(rand.NewSource(101))
	for range 5000 {
		h, table := wildHeap(t, r)
		roots := h.Objects()
		for i := range h.Used() {
			if w := h.Word(i); w%8 == 1 && !slices.Contains(roots, w) {
				h.Put(i, word.Null)
			}
		}
		r.Shuffle(len(roots), func(i, j int) { roots[i], roots[j] = roots[j], roots[i] })
		roots = roots[:min(len(roots), r.Intn(3))]
		want := store.Show(h, table, roots...)
		expectGraph(t, "behind a collection", store.Show(h, table, gc.Collect(h, roots...)...), want)
	}
}

// wildHeap is a heap after some wild calls, and a table of one name.
func wildHeap(t *testing.T, r *rand.Rand) (*heap.Heap, *store.Names) {
	t.Helper()
	n := 1 + r.Intn(40)
	h, table := mustNew(t, n), store.NewNames()
	table.Id("a")
	for range 12 {
		wildCall(r, h, n)
	}
	return h, table
}

// wildCall changes a heap of n words somehow.
func wildCall(r *rand.Rand, h *heap.Heap, n int) {
	switch r.Intn(5) {
	case 0, 1:
		h.Fill(1+r.Intn(22), r.Intn(6), pointer(r.Intn(n+1)))
	case 2:
		h.Put(r.Intn(n), []api.Word{pointer(r.Intn(n + 1)), nameWord(0), fix(1), charWord('a')}[r.Intn(4)])
	case 3:
		h.Put(r.Intn(n), head(1+r.Intn(24), []int{0, 1, 2, 3, n, 1 << 22, 1 << 40}[r.Intn(7)]))
	case 4:
		if r.Intn(3) == 0 {
			h.Cut(r.Intn(n + 1))
		}
	}
}

// Heads put everywhere that say more fields than there are: no word is two objects' field, so that it ends soon.
func TestHeadsEverywhere(t *testing.T) {
	const count = 50000
	h := mustNew(t, 2*count)
	h.Fill(api.TVector, 2*count-1, word.Null)
	for n := range count {
		h.Put(2*n, head(api.TValues, 1<<40))
		h.Put(2*n+1, pointer(2*n+2))
	}
	g := store.Show(h, nil, pointer(0))
	if len(g.Nodes) != count+1 || len(g.Nodes[0].Kids) != 1 || g.Nodes[count].Kind != api.GVoid {
		t.Errorf("%d nodes", len(g.Nodes))
	}
}

// Names are told by their texts, so that what is shown of one heap is laid into another one with other numbers.
func TestAnotherHeap(t *testing.T) {
	r := rand.New(rand.NewSource(100))
	for range 500 {
		g := sampleGraph(r, 12)
		h, table := mustNew(t, 3000), store.NewNames()
		shown := store.Show(h, table, mustPut(t, h, table, g)...)
		other, texts := mustNew(t, 3000), store.NewNames()
		for _, s := range []string{"b", "zz", "list->string", strings.Repeat("q", 9)} {
			texts.Id(s)
		}
		mustAlloc(t, other, api.TCell, word.Null)
		expectGraph(t, "another", store.Show(other, texts, mustPut(t, other, texts, shown)...), canonOf(g))
	}
}
