package gc_test

import (
	"math"
	"math/rand"
	"slices"
	"testing"

	"athanor/api"
	"athanor/gc"
	"athanor/heap"
	"athanor/word"
)

// object is an object of the model.
type object struct {
	kind   int
	fields []api.Word
}

// model is the chapter written out a second time: objects, one behind the other, that are gone over until no more of them are found to live.
type model []object

// place is where an object begins; of as many as there are, where what is used ends.
func (m model) place(n int) int {
	at := 0
	for _, o := range m[:n] {
		at += 1 + len(o.fields)
	}
	return at
}

func (m model) used() int { return m.place(len(m)) }

// find is the number of the object whose place a word says; -1, if it is none.
func (m model) find(w api.Word) int {
	for n := range m {
		if w == pointer(m.place(n)) {
			return n
		}
	}
	return -1
}

// row is all words that are used, heads by multiplication.
func (m model) row() []api.Word {
	var out []api.Word
	for _, o := range m {
		out = append(out, api.Word(len(o.fields))*2048+api.Word(o.kind)*8+7)
		out = append(out, o.fields...)
	}
	return out
}

// lives tells which objects live.
func (m model) lives(roots []api.Word) []bool {
	out := make([]bool, len(m))
	said := slices.Clone(roots)
	for changed := true; changed; {
		changed = false
		for n, o := range m {
			if !out[n] && slices.Contains(said, pointer(m.place(n))) {
				out[n], changed = true, true
				said = append(said, o.fields...)
			}
		}
	}
	return out
}

// collect is the model behind a collection, and the roots.
func (m model) collect(roots []api.Word) (model, []api.Word) {
	lives := m.lives(roots)
	to := map[api.Word]api.Word{}
	var kept model
	for n, o := range m {
		if lives[n] {
			to[pointer(m.place(n))] = pointer(kept.used())
			kept = append(kept, o)
		}
	}
	for n := range kept {
		kept[n].fields = renamed(kept[n].fields, to)
	}
	return kept, renamed(roots, to)
}

func renamed(words []api.Word, to map[api.Word]api.Word) []api.Word {
	var out []api.Word
	for _, w := range words {
		if p, ok := to[w]; ok {
			w = p
		}
		out = append(out, w)
	}
	return out
}

// live is how many words live.
func (m model) live(roots []api.Word) int {
	sum := 0
	for n, lives := range m.lives(roots) {
		if lives {
			sum += 1 + len(m[n].fields)
		}
	}
	return sum
}

// lay lays the objects into a heap that has so many words more.
func (m model) lay(t *testing.T, more int) *heap.Heap {
	t.Helper()
	h := mustNew(t, m.used()+more)
	for _, o := range m {
		mustAlloc(t, h, o.kind, o.fields...)
	}
	return h
}

// pointer is the word that says a place.
func pointer(at int) api.Word { return api.Word(at)*8 + 1 }

func fix(n int) api.Word {
	w, _ := word.Fix(int64(n))
	return w
}

func head(kind, size int) api.Word {
	w, _ := word.Head(kind, size)
	return w
}

// plain are words of all kinds that are no places, and no heads; those that say nothing, too.
func plain() []api.Word {
	letter, _ := word.Char(5)
	name, _ := word.Name(3)
	prim, _ := word.Prim(api.PrLoad)
	special, _ := word.Special(api.SpRules)
	return []api.Word{
		fix(0), fix(1), fix(3), fix(-1), fix(1<<60 - 1), fix(-1 << 60),
		word.Null, word.False, word.True, word.Eof, word.Void, word.Unset, letter, name, prim, special,
		3, 4, 5, 6, 7, 3*8 + 3, 3*8 + 4, 3*8 + 5, 3*8 + 6, 7 + 5*2048, math.MaxUint64,
		pointer(1<<40 + 1), 1<<63 | 1, math.MaxUint64 - 6, // tagged as places, but past all places
	}
}

// heads may be roots, but no fields.
func heads() []api.Word {
	return []api.Word{head(1, 0), head(1, 2), head(22, 5), head(23, 0), head(255, 0), head(2, 1<<40), head(255, 1<<40)}
}

func mustNew(t *testing.T, n int) *heap.Heap {
	t.Helper()
	h, err := heap.New(n)
	if h == nil || err != api.OK {
		t.Fatalf("New(%d): %v, %d", n, h, err)
	}
	return h
}

func mustAlloc(t *testing.T, h *heap.Heap, kind int, fields ...api.Word) api.Word {
	t.Helper()
	p, err := h.Alloc(kind, fields...)
	if err != api.OK {
		t.Fatalf("Alloc(%d, %d fields): %d", kind, len(fields), err)
	}
	return p
}

func mustFill(t *testing.T, h *heap.Heap, kind, n int, w api.Word) api.Word {
	t.Helper()
	p, err := h.Fill(kind, n, w)
	if err != api.OK {
		t.Fatalf("Fill(%d, %d, %#x): %d", kind, n, w, err)
	}
	return p
}

// state is all that can be told of a heap's words.
type state struct {
	used, room int
	row        []api.Word
	objects    []api.Word
}

func stateOf(h *heap.Heap) state {
	s := state{used: h.Used(), room: h.Room(), objects: h.Objects()}
	for i := range s.used {
		s.row = append(s.row, h.Word(i))
	}
	return s
}

func (s state) is(other state) bool {
	return s.used == other.used && s.room == other.room && slices.Equal(s.row, other.row) && slices.Equal(s.objects, other.objects)
}

// expectState holds that nothing has changed.
func expectState(t *testing.T, h *heap.Heap, want state) {
	t.Helper()
	if got := stateOf(h); !got.is(want) {
		t.Fatalf("it was %v, and is %v", want, got)
	}
}

// expectCollect holds all that 8.1 says, of a heap that has the model's objects, against the model; it answers the roots, and the model behind the collection.
func expectCollect(t *testing.T, h *heap.Heap, m model, roots ...api.Word) ([]api.Word, model) {
	t.Helper()
	before := stateOf(h)
	handed := slices.Clone(roots)
	if got, want := gc.Live(h, roots...), m.live(roots); got != want {
		t.Fatalf("%v, roots %v: Live is %d, want %d", m, roots, got, want)
	}
	expectState(t, h, before)
	kept, want := m.collect(roots)
	got := gc.Collect(h, roots...)
	if !slices.Equal(got, want) {
		t.Fatalf("%v, roots %v: answered %v, want %v", m, roots, got, want)
	}
	if !slices.Equal(roots, handed) {
		t.Fatalf("%v: the roots that were handed in were %v, and are %v", m, handed, roots)
	}
	after := stateOf(h)
	if !slices.Equal(after.row, kept.row()) || after.used != kept.used() || after.used+after.room != before.used+before.room {
		t.Fatalf("%v, roots %v: the heap is %v, want %v", m, roots, after, kept)
	}
	return got, kept
}

// sampleModel is some objects of all types, whose fields say places of objects more often than others.
func sampleModel(r *rand.Rand) model {
	m := make(model, r.Intn(14))
	for n := range m {
		m[n] = object{1 + r.Intn(22), make([]api.Word, sampleSize(r))}
	}
	for n := range m {
		for i := range m[n].fields {
			m[n].fields[i] = sampleField(r, m)
		}
	}
	return m
}

func sampleSize(r *rand.Rand) int {
	if r.Intn(20) == 0 {
		return r.Intn(40)
	}
	return r.Intn(5)
}

func sampleField(r *rand.Rand, m model) api.Word {
	switch r.Intn(8) {
	case 0:
		return pointer(r.Intn(m.used() + 3))
	case 1:
		return pointer(1 << r.Intn(41))
	case 2, 3, 4:
		return plain()[r.Intn(len(plain()))]
	}
	return samplePlace(r, m)
}

// samplePlace says an object's place, if there is one.
func samplePlace(r *rand.Rand, m model) api.Word {
	if len(m) == 0 {
		return word.Null
	}
	return pointer(m.place(r.Intn(len(m))))
}

func sampleRoots(r *rand.Rand, m model) []api.Word {
	out := make([]api.Word, r.Intn(4))
	for i := range out {
		out[i] = sampleField(r, m)
		if r.Intn(10) == 0 {
			out[i] = heads()[r.Intn(len(heads()))]
		}
	}
	return out
}
