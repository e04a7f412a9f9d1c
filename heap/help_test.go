package heap_test

import (
	"math"
	"math/rand"
	"slices"
	"testing"

	"athanor/api"
	"athanor/heap"
	"athanor/word"
)

// object is an object of the model: a row of its own.
type object struct {
	kind   int
	fields []api.Word
}

// model is the chapter written out a second time: objects, one behind the other, in so many words.
type model struct {
	words   int
	objects []object
}

// row is all words that are used, heads by multiplication.
func (m *model) row() []api.Word {
	var out []api.Word
	for _, o := range m.objects {
		out = append(out, api.Word(len(o.fields))*2048+api.Word(o.kind)*8+7)
		out = append(out, o.fields...)
	}
	return out
}

func (m *model) used() int { return len(m.row()) }

// place is where an object begins.
func (m *model) place(n int) int {
	at := 0
	for _, o := range m.objects[:n] {
		at += 1 + len(o.fields)
	}
	return at
}

// find is the object whose place a word says.
func (m *model) find(p api.Word) (*object, bool) {
	for i := range m.objects {
		if p == pointer(m.place(i)) {
			return &m.objects[i], true
		}
	}
	return nil, false
}

func (m *model) alloc(kind int, fields []api.Word) (api.Word, api.Errno) {
	if kind < 1 || kind > 22 {
		return 0, api.ErrType
	}
	for _, w := range fields {
		if headed(w) {
			return 0, api.ErrArg
		}
	}
	if m.used()+1+len(fields) > m.words {
		return 0, api.ErrFull
	}
	p := pointer(m.used())
	m.objects = append(m.objects, object{kind, slices.Clone(fields)})
	return p, api.OK
}

func (m *model) fill(kind, n int, w api.Word) (api.Word, api.Errno) {
	if kind < 1 || kind > 22 {
		return 0, api.ErrType
	}
	if n < 0 || n > 1<<22 {
		return 0, api.ErrArg
	}
	return m.alloc(kind, slices.Repeat([]api.Word{w}, n))
}

func (m *model) get(p api.Word, kind, i int) (api.Word, api.Errno) {
	o, ok := m.find(p)
	if !ok || kind != 0 && kind != o.kind {
		return 0, api.ErrType
	}
	if i < 0 || i >= len(o.fields) {
		return 0, api.ErrRange
	}
	return o.fields[i], api.OK
}

func (m *model) set(p api.Word, kind, i int, w api.Word) api.Errno {
	if _, err := m.get(p, kind, i); err != api.OK {
		return err
	}
	if headed(w) {
		return api.ErrArg
	}
	o, _ := m.find(p)
	o.fields[i] = w
	return api.OK
}

// headed tells whether a word is a head, by division.
func headed(w api.Word) bool {
	return w%8 == 7 && w/8%256 != 0 && w/2048 <= 1<<40
}

// pointer is the word that says a place.
func pointer(at int) api.Word { return api.Word(at)*8 + 1 }

func fix(n int) api.Word {
	w, _ := word.Fix(int64(n))
	return w
}

func head(kind, size int) api.Word {
	w, _ := word.Head(kind, size)
	return w
}

// plain are words of all kinds that may be fields; those of a head's tag that are none, too.
func plain() []api.Word {
	letter, _ := word.Char('λ')
	name, _ := word.Name(3)
	prim, _ := word.Prim(api.PrLoad)
	special, _ := word.Special(api.SpRules)
	return []api.Word{
		fix(0), fix(1), fix(-1), fix(1<<60 - 1), fix(-1 << 60),
		pointer(0), pointer(1), pointer(7), pointer(1 << 40), pointer(1<<40 + 1),
		word.Null, word.False, word.True, word.Eof, word.Void, word.Unset, letter, name, prim, special,
		3, 4, 5, 6, 7, 7 + 5*2048, (1<<40+1)*2048 + 15, math.MaxUint64,
	}
}

// heads are heads of types and sizes that objects have, and of others.
func heads() []api.Word {
	return []api.Word{head(1, 0), head(1, 2), head(22, 5), head(23, 0), head(255, 0), head(2, 1<<40), head(255, 1<<40)}
}

func mustNew(t *testing.T, n int) *heap.Heap {
	t.Helper()
	h, err := heap.New(n)
	if h == nil || err != api.OK {
		t.Fatalf("New(%d): %v, %d", n, h, err)
	}
	return h
}

func mustAlloc(t *testing.T, h *heap.Heap, kind int, fields ...api.Word) api.Word {
	t.Helper()
	p, err := h.Alloc(kind, fields...)
	if err != api.OK {
		t.Fatalf("Alloc(%d, %d fields): %d", kind, len(fields), err)
	}
	return p
}

func mustFill(t *testing.T, h *heap.Heap, kind, n int, w api.Word) api.Word {
	t.Helper()
	p, err := h.Fill(kind, n, w)
	if err != api.OK {
		t.Fatalf("Fill(%d, %d, %#x): %d", kind, n, w, err)
	}
	return p
}

// refused holds that there is an error, and nothing beside it.
func refused(t *testing.T, what string, w api.Word, err, want api.Errno) {
	t.Helper()
	if w != 0 || err != want {
		t.Errorf("%s: %#x, %d, want %d", what, w, err, want)
	}
}

func expectGet(t *testing.T, h *heap.Heap, p api.Word, kind, i int, want api.Word) {
	t.Helper()
	if w, err := h.Get(p, kind, i); w != want || err != api.OK {
		t.Errorf("Get(%#x, %d, %d): %#x, %d, want %#x", p, kind, i, w, err, want)
	}
}

// state is all that can be told of a heap's words.
type state struct {
	used, room int
	row        []api.Word
	objects    []api.Word
}

func stateOf(h *heap.Heap) state {
	s := state{used: h.Used(), room: h.Room(), objects: h.Objects()}
	for i := range s.used {
		s.row = append(s.row, h.Word(i))
	}
	return s
}

func (s state) is(other state) bool {
	return s.used == other.used && s.room == other.room && slices.Equal(s.row, other.row) && slices.Equal(s.objects, other.objects)
}

// expectState holds that nothing has changed.
func expectState(t *testing.T, h *heap.Heap, want state) {
	t.Helper()
	if got := stateOf(h); !got.is(want) {
		t.Errorf("it was %v, and is %v", want, got)
	}
}

// expectModel holds a heap against the model, word by word and field by field.
func expectModel(t *testing.T, h *heap.Heap, m *model) {
	t.Helper()
	want := state{used: m.used(), room: m.words - m.used(), row: m.row()}
	for n := range m.objects {
		want.objects = append(want.objects, pointer(m.place(n)))
	}
	if got := stateOf(h); !got.is(want) {
		t.Fatalf("the model is %v, and the heap %v", want, got)
	}
	for n, o := range m.objects {
		expectObject(t, h, want.objects[n], o)
	}
}

// expectObject holds that an object is of that type and has those fields, and no others.
func expectObject(t *testing.T, h *heap.Heap, p api.Word, o object) {
	t.Helper()
	if kind, err := h.Kind(p); kind != o.kind || err != api.OK {
		t.Fatalf("Kind(%#x): %d, %d, want %d", p, kind, err, o.kind)
	}
	if size, err := h.Size(p); size != len(o.fields) || err != api.OK {
		t.Fatalf("Size(%#x): %d, %d, want %d", p, size, err, len(o.fields))
	}
	for i := -1; i <= len(o.fields); i++ {
		var want api.Word
		wrong := api.ErrRange
		if 0 <= i && i < len(o.fields) {
			want, wrong = o.fields[i], api.OK
		}
		for _, kind := range []int{0, o.kind} {
			if w, err := h.Get(p, kind, i); w != want || err != wrong {
				t.Fatalf("Get(%#x, %d, %d): %#x, %d, want %#x, %d", p, kind, i, w, err, want, wrong)
			}
		}
	}
}

// sampleWord is some word: a head, now and then, a place near those that are there, or another one.
func sampleWord(r *rand.Rand, places int) api.Word {
	switch r.Intn(12) {
	case 0:
		return heads()[r.Intn(len(heads()))]
	case 1:
		return api.Word(r.Uint64() >> r.Intn(64))
	case 2, 3, 4:
		return plain()[r.Intn(len(plain()))]
	}
	return pointer(r.Intn(places + 2))
}
