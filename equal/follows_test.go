package equal_test

import (
	"math/rand"
	"slices"
	"testing"

	"athanor/api"
	"athanor/equal"
	"athanor/gc"
	"athanor/heap"
	"athanor/word"
)

// Promise 10.3: both are equalities, what is Eqv is alike, and where things lie does not count; 10.1 and 10.2 by many heaps, held against the chapter written out a second time.

// sampleObjects are some objects, mostly of the types that may be alike, whose fields are few different words, so that many are.
func sampleObjects(r *rand.Rand) objects {
	all := make(objects, 1+r.Intn(12))
	for n := range all {
		all[n] = sampleObject(r)
	}
	for n := range all {
		for i, w := range all[n].fields {
			if w == word.Unset {
				all[n].fields[i] = pointer(all.place(r.Intn(len(all))))
			}
		}
	}
	return all
}

// sampleObject is one; a field that is Unset is still to say a place.
func sampleObject(r *rand.Rand) object {
	switch r.Intn(9) {
	case 0, 1:
		return object{api.TBig, sampleBig(r)}
	case 2:
		return object{1 + r.Intn(22), sampleFields(r, r.Intn(3))}
	case 3:
		return object{api.TString + r.Intn(2), sampleFields(r, r.Intn(3))}
	case 4:
		return object{api.TVector, sampleFields(r, r.Intn(4))}
	}
	return object{api.TPair, sampleFields(r, 2)}
}

func sampleBig(r *rand.Rand) []api.Word {
	return slices.Clone([][]api.Word{
		bigFields(power(60)), bigFields(power(60)), bigFields(power(64)), bigFields(plus(power(64), 1)), {fix(1), fix(0), fix(0), fix(1)}, {fix(0), fix(5)}, {fix(0), fix(1), fix(1), fix(0)}, {fix(2), fix(0), fix(0), fix(1)},
	}[r.Intn(8)])
}

func sampleFields(r *rand.Rand, count int) []api.Word {
	out := make([]api.Word, count)
	for i := range out {
		out[i] = []api.Word{word.Unset, word.Unset, word.Unset, word.Unset, word.Null, fix(0), pointer(1 << 40)}[r.Intn(7)]
	}
	return out
}

// placesOf are the words that say all objects' places, and some that say none.
func placesOf(all objects) []api.Word {
	out := []api.Word{word.Null, fix(0), pointer(1), pointer(1 << 40), head(api.TPair, 2)}
	for n := range all {
		out = append(out, pointer(all.place(n)))
	}
	return out
}

func TestAgainstTheModel(t *testing.T) {
	r := rand.New(rand.NewSource(101))
	alike, told, integers := 0, 0, 0
	for range 8000 {
		all := sampleObjects(r)
		h := all.lay(t)
		known := all.apartOf()
		words := placesOf(all)
		for _, a := range words {
			for _, b := range words {
				eqv, apart := all.eqv(a, b), known.tells(all, a, b)
				expect(t, h, "words", a, b, eqv, !apart)
				switch {
				case eqv && a != b:
					integers++
				case !eqv && !apart:
					alike++
				case apart && all.find(a) >= 0 && all.find(b) >= 0 && known[all.find(a)][all.find(b)]:
					told++
				}
			}
		}
	}
	if alike < 1000 || told < 1000 || integers < 1000 {
		t.Errorf("alike %d times, told apart by fields %d times, the same integer %d times", alike, told, integers)
	}
}

// laws holds what makes both equalities, of all words that are asked.
func laws(t *testing.T, h *heap.Heap, words []api.Word) {
	t.Helper()
	for name, same := range map[string]func(*heap.Heap, api.Word, api.Word) bool{"Eqv": equal.Eqv, "Equal": equal.Equal} {
		is := make([][]bool, len(words))
		for i, a := range words {
			for j, b := range words {
				is[i] = append(is[i], same(h, a, b))
				if name == "Eqv" && is[i][j] && !equal.Equal(h, a, b) {
					t.Fatalf("%#x and %#x are Eqv, but not alike", a, b)
				}
			}
		}
		for i := range words {
			if !is[i][i] {
				t.Fatalf("%s: %#x is not as itself", name, words[i])
			}
			for j := range words {
				if is[i][j] != is[j][i] || is[i][j] && !slices.Equal(is[i], is[j]) {
					t.Fatalf("%s: %#x and %#x", name, words[i], words[j])
				}
			}
		}
	}
}

func TestEqualities(t *testing.T) {
	r := rand.New(rand.NewSource(102))
	for range 1500 {
		all := sampleObjects(r)
		laws(t, all.lay(t), placesOf(all))
	}
}

// A collection changes nothing of either.
func TestCollectionsChangeNothing(t *testing.T) {
	r := rand.New(rand.NewSource(103))
	moved := 0
	for range 5000 {
		all := sampleObjects(r)
		h := all.lay(t)
		var roots []api.Word
		for range 2 + r.Intn(3) {
			roots = append(roots, pointer(all.place(r.Intn(len(all)))))
		}
		roots = append(roots, word.Null, pointer(1<<40))
		expectKept(t, h, roots)
		if !slices.Equal(roots, gc.Collect(all.lay(t), roots...)) {
			moved++
		}
	}
	if moved < 1000 {
		t.Errorf("something moved only %d times", moved)
	}
}

// expectKept holds that a collection changes nothing of what is told of roots.
func expectKept(t *testing.T, h *heap.Heap, roots []api.Word) {
	t.Helper()
	eqv, alike := table(h, equal.Eqv, roots), table(h, equal.Equal, roots)
	got := gc.Collect(h, roots...)
	if !slices.Equal(table(h, equal.Eqv, got), eqv) || !slices.Equal(table(h, equal.Equal, got), alike) {
		t.Fatalf("roots %#x became %#x: %#x", roots, got, row(h))
	}
}

// table is what is told of each two words.
func table(h *heap.Heap, same func(*heap.Heap, api.Word, api.Word) bool, words []api.Word) []bool {
	var out []bool
	for _, a := range words {
		for _, b := range words {
			out = append(out, same(h, a, b))
		}
	}
	return out
}

// Where things lie does not count: objects that are laid twice, the second time in another order, are alike each its like, if they are made of what may be alike alone.
func TestLaidInAnotherOrder(t *testing.T) {
	r := rand.New(rand.NewSource(104))
	for range 2000 {
		first := slices.DeleteFunc(sampleObjects(r), func(o object) bool { return o.kind != api.TPair && o.kind != api.TVector })
		for n := range first {
			for i, w := range first[n].fields {
				if w%8 == 1 && len(first) > 0 {
					first[n].fields[i] = pointer(first.place(r.Intn(len(first))))
				}
			}
		}
		both := slices.Clone(first)
		order := r.Perm(len(first))
		for _, n := range order {
			both = append(both, object{first[n].kind, slices.Clone(first[n].fields)})
		}
		for n := len(first); n < len(both); n++ {
			for i, w := range both[n].fields {
				if k := first.find(w); k >= 0 {
					both[n].fields[i] = pointer(both.place(len(first) + slices.Index(order, k)))
				}
			}
		}
		h := both.lay(t)
		for at, n := range order {
			expectAlike(t, h, "laid twice", pointer(both.place(n)), pointer(both.place(len(first)+at)))
		}
	}
}

// A heap in which objects were moved by collections tells new ones and old ones as before.
func TestUsedOnAndOn(t *testing.T) {
	r := rand.New(rand.NewSource(105))
	for range 200 {
		h := mustNew(t, 60)
		kept := []api.Word{word.Null}
		for range 100 {
			fields := []api.Word{kept[r.Intn(len(kept))], fix(r.Intn(2))}
			p, err := h.Alloc(1+r.Intn(2), fields...)
			if err == api.ErrFull {
				kept = kept[len(kept)-min(len(kept), 4):]
				expectKept(t, h, kept)
				h.Cut(0)
				kept = []api.Word{word.Null}
				continue
			}
			for _, w := range kept {
				expect(t, h, "new", p, w, false, unfolded(h, p) == unfolded(h, w))
			}
			kept = append(kept, p)
		}
	}
}

// unfolded is what hangs on a word that does not go round, told in full.
func unfolded(h *heap.Heap, w api.Word) string {
	kind, err := h.Kind(w)
	if err != api.OK {
		return string(rune(w))
	}
	first, _ := h.Get(w, 0, 0)
	second, _ := h.Get(w, 0, 1)
	return "(" + string(rune('0'+kind)) + unfolded(h, first) + unfolded(h, second) + ")"
}
