package heap_test

import (
	"math/rand"
	"testing"

	"athanor/api"
	"athanor/heap"
	"athanor/word"
)

// Promise 7.5: fields are what was set last, objects lie one behind the other and fill what is used, what is refused changes nothing: many calls, held against the model.

func TestAgainstTheModel(t *testing.T) {
	r := rand.New(rand.NewSource(75))
	seen := map[api.Errno]int{}
	for range 3000 {
		n := 1 + r.Intn(60)
		h, m := mustNew(t, n), &model{words: n}
		for range 60 {
			seen[bothCalls(t, r, h, m)]++
			if r.Intn(8) == 0 {
				expectModel(t, h, m)
			}
		}
		expectModel(t, h, m)
	}
	for _, err := range []api.Errno{api.OK, api.ErrArg, api.ErrRange, api.ErrFull, api.ErrType} {
		if seen[err] < 1000 {
			t.Errorf("error %d only %d times", err, seen[err])
		}
	}
}

// bothCalls does the same to a heap and to its model, and holds what they answer against each other.
func bothCalls(t *testing.T, r *rand.Rand, h *heap.Heap, m *model) api.Errno {
	t.Helper()
	var got, want api.Word
	var err, wrong api.Errno
	kind, w := r.Intn(24), sampleWord(r, m.words)
	switch r.Intn(8) {
	case 0:
		fields := sampleFields(r, m.words)
		got, err = h.Alloc(kind, fields...)
		want, wrong = m.alloc(kind, fields)
	case 1:
		n := r.Intn(9) - 1
		got, err = h.Fill(kind, n, w)
		want, wrong = m.fill(kind, n, w)
	case 2:
		cutBoth(r, h, m)
	case 3:
		putBoth(r, h, m, w)
	default:
		p, i := samplePlace(r, m), r.Intn(7)-1
		if o, ok := m.find(p); ok && r.Intn(3) > 0 {
			kind = []int{0, o.kind}[r.Intn(2)]
		}
		if r.Intn(2) == 0 {
			got, err = h.Get(p, kind, i)
			want, wrong = m.get(p, kind, i)
		} else {
			err = h.Set(p, kind, i, w)
			wrong = m.set(p, kind, i, w)
		}
	}
	if got != want || err != wrong {
		t.Fatalf("%#x, %d, want %#x, %d", got, err, want, wrong)
	}
	return err
}

func sampleFields(r *rand.Rand, places int) []api.Word {
	fields := make([]api.Word, r.Intn(6))
	for i := range fields {
		fields[i] = sampleWord(r, places)
		if headed(fields[i]) && r.Intn(3) > 0 {
			fields[i] = word.Null
		}
	}
	return fields
}

// samplePlace is the word of an object's place, most of the time.
func samplePlace(r *rand.Rand, m *model) api.Word {
	if len(m.objects) == 0 || r.Intn(4) == 0 {
		return sampleWord(r, m.words)
	}
	return pointer(m.place(r.Intn(len(m.objects))))
}

// cutBoth cuts some last objects off, as often as not none.
func cutBoth(r *rand.Rand, h *heap.Heap, m *model) {
	count := len(m.objects)
	if count > 0 && r.Intn(2) == 0 {
		count -= r.Intn(count + 1)
	}
	h.Cut(m.place(count))
	m.objects = m.objects[:count]
}

// putBoth puts a word into a field, or one that is no head past what is used.
func putBoth(r *rand.Rand, h *heap.Heap, m *model, w api.Word) {
	if len(m.objects) == 0 || headed(w) {
		h.Put(m.used()+r.Intn(3), w)
		return
	}
	n := r.Intn(len(m.objects))
	if fields := m.objects[n].fields; len(fields) > 0 {
		i := r.Intn(len(fields))
		h.Put(m.place(n)+1+i, w)
		fields[i] = w
	}
}

// Objects fill what is used: each begins where the one ahead of it ends, and the last one ends where what is used does.
func TestObjectsFillWhatIsUsed(t *testing.T) {
	r := rand.New(rand.NewSource(76))
	for range 300 {
		h := mustNew(t, 1+r.Intn(200))
		for range 60 {
			h.Alloc(1+r.Intn(22), sampleFields(r, 200)...)
			h.Fill(1+r.Intn(22), r.Intn(6), sampleWord(r, 200))
		}
		next := 0
		for _, p := range h.Objects() {
			at, ok := word.At(p)
			size, err := h.Size(p)
			if at != next || !ok || err != api.OK {
				t.Fatalf("an object at %d, %v, of size %d, %d; the one ahead ends at %d", at, ok, size, err, next)
			}
			next += 1 + size
		}
		if next != h.Used() {
			t.Fatalf("objects end at %d, but %d are used", next, h.Used())
		}
	}
}

// A field is what was set last, and no other field is changed by it.
func TestSetLast(t *testing.T) {
	r := rand.New(rand.NewSource(77))
	h := mustNew(t, 500)
	var places []api.Word
	for kind := 1; kind <= 22; kind++ {
		places = append(places, mustFill(t, h, kind, 1+kind%7, word.Unset))
	}
	last := map[[2]int]api.Word{}
	for range 20000 {
		n := r.Intn(22)
		size, _ := h.Size(places[n])
		i, w := r.Intn(size), sampleWord(r, 500)
		if err := h.Set(places[n], r.Intn(2)*(n+1), i, w); err == api.OK {
			last[[2]int{n, i}] = w
		} else if err != api.ErrArg || !headed(w) {
			t.Fatalf("Set of %#x: %d", w, err)
		}
	}
	for at, w := range last {
		expectGet(t, h, places[at[0]], at[0]+1, at[1], w)
	}
}
