package equal_test

import (
	"strconv"
	"testing"

	"athanor/api"
	"athanor/equal"
	"athanor/heap"
	"athanor/word"
)

// Promise 10.2: what goes round; long lists, deep ones, many pairs that hang together many times.

// chain lays pairs with these cars, the last of which goes on to the pair of that number; it ends in null, if that is -1.
func chain(t *testing.T, h *heap.Heap, cars []int, back int) api.Word {
	t.Helper()
	start := h.Used()
	for n, car := range cars {
		next := start + 3*(n+1)
		if n == len(cars)-1 {
			next = start + 3*back
		}
		mustAlloc(t, h, api.TPair, fix(car), pointer(next))
	}
	if back < 0 {
		mustSet(t, h, pointer(start+3*(len(cars)-1)), 1, word.Null)
	}
	return pointer(start)
}

// same are so many cars that are all 0.
func same(n int) []int { return make([]int, n) }

// The pair that is its own cdr, and two pairs that are each other's.
func TestOwnCdr(t *testing.T) {
	h := mustNew(t, 200)
	one, two := chain(t, h, same(1), 0), chain(t, h, same(2), 0)
	expectAlike(t, h, "one and one", one, chain(t, h, same(1), 0))
	expectAlike(t, h, "one and two", one, two)
	second, _ := h.Get(two, api.TPair, 1)
	expectAlike(t, h, "within one ring", two, second)
	expectAlike(t, h, "one pair ahead", chain(t, h, same(2), 1), one)
	mustSet(t, h, second, 0, fix(1))
	expectApart(t, h, "another car", one, two)
	expectApart(t, h, "within one ring", two, second)
	expectApart(t, h, "no ring", one, chain(t, h, same(7), -1))
}

// laps are all chains of up to so many pairs with cars 0 and 1, with all ways to go on.
func laps(most int) (cars [][]int, backs []int) {
	for length := 1; length <= most; length++ {
		for choice := range 1 << length {
			row := make([]int, length)
			for i := range row {
				row[i] = choice >> i & 1
			}
			for back := -1; back < length; back++ {
				cars, backs = append(cars, row), append(backs, back)
			}
		}
	}
	return cars, backs
}

// unrolled are the first so many cars of a chain; -1 behind its end.
func unrolled(cars []int, back, count int) string {
	var out []byte
	for n := 0; len(out) < count; n++ {
		if n == len(cars) && back >= 0 {
			n = back
		}
		car := -1
		if n < len(cars) {
			car = cars[n]
		}
		out = append(out, byte('0'+car))
	}
	return string(out)
}

// Each short chain against each: alike, if they go on alike for ever, which is so, if they do for twice as long as both are.
func TestAllShortChains(t *testing.T) {
	cars, backs := laps(5)
	h := mustNew(t, 10000)
	var words []api.Word
	var told []string
	for n := range cars {
		words = append(words, chain(t, h, cars[n], backs[n]))
		told = append(told, unrolled(cars[n], backs[n], 30))
	}
	for i, a := range words {
		for j, b := range words[:i+1] {
			expect(t, h, told[i]+" and "+told[j], a, b, i == j, told[i] == told[j])
		}
	}
}

// Rings of all lengths: one a multiple of the other, or not; all cars the same, or one that is not.
func TestRingsOfAllLengths(t *testing.T) {
	for m := 1; m <= 24; m++ {
		for n := 1; n <= 24; n++ {
			h := mustNew(t, 1000)
			a, b := chain(t, h, same(m), 0), chain(t, h, same(n), 0)
			what := strconv.Itoa(m) + " and " + strconv.Itoa(n)
			expectAlike(t, h, what, a, b)
			first, second := make([]int, m), make([]int, n)
			first[m-1], second[n-1] = 1, 1
			expectApart(t, h, what, a, chain(t, h, second, 0))
			expect(t, h, what, chain(t, h, first, 0), chain(t, h, second, 0), false, m == n)
			if n%m == 0 {
				for i := range second {
					second[i] = first[i%m]
				}
				expectAlike(t, h, what, chain(t, h, first, 0), chain(t, h, second, 0))
			}
		}
	}
}

// Long rings that differ in one place far behind, or nowhere; of lengths that have nothing in common they are gone through once, and not once for each place of the other.
func TestLongRings(t *testing.T) {
	for _, lengths := range [][2]int{{50000, 50000}, {1, 100000}, {30000, 90000}, {100003, 99991}, {65536, 59049}} {
		h := mustNew(t, 3*(lengths[0]+lengths[1]))
		a, b := chain(t, h, same(lengths[0]), 0), chain(t, h, same(lengths[1]), 0)
		what := strconv.Itoa(lengths[0]) + " and " + strconv.Itoa(lengths[1])
		expectAlike(t, h, what, a, b)
		for _, back := range []int{0, 1, lengths[1] / 2} {
			far := pointer(int(b/8) + 3*(lengths[1]-1-back))
			mustSet(t, h, far, 0, fix(1))
			expectApart(t, h, what, a, b)
			mustSet(t, h, far, 0, fix(0))
		}
		expectAlike(t, h, what, a, b)
	}
}

// Rings by the cars, by a vector's fields, and through several types by turns.
func TestOtherRings(t *testing.T) {
	h := mustNew(t, 2000)
	ring := func(kind, size, at, length int) api.Word {
		start := h.Used()
		for n := range length {
			fields := make([]api.Word, size)
			fields[at] = pointer(start + (n+1)%length*(size+1))
			mustAlloc(t, h, kind, fields...)
		}
		return pointer(start)
	}
	for _, shape := range [][3]int{{api.TPair, 2, 0}, {api.TPair, 2, 1}, {api.TPair, 1, 0}, {api.TVector, 1, 0}, {api.TVector, 5, 2}, {api.TVector, 5, 4}} {
		expectAlike(t, h, "rings", ring(shape[0], shape[1], shape[2], 4), ring(shape[0], shape[1], shape[2], 6))
		expectBoth(t, h, "a ring", pointer(0), pointer(0))
	}
	expectApart(t, h, "by car and cdr", ring(api.TPair, 2, 0, 2), ring(api.TPair, 2, 1, 2))
	expectApart(t, h, "of two types", ring(api.TPair, 2, 0, 2), ring(api.TVector, 2, 0, 2))
	expectApart(t, h, "of two sizes", ring(api.TVector, 2, 0, 2), ring(api.TVector, 3, 0, 2))
	for _, kind := range []int{api.TString, api.TBytes, api.TCell, api.TClosure, api.TTable, api.TValues, api.TBig} {
		expectApart(t, h, "of no such type", ring(kind, 1, 0, 1), ring(kind, 1, 0, 1))
		expectApart(t, h, "of no such type", ring(kind, 1, 0, 2), ring(kind, 1, 0, 2))
	}
}

// A pair and a vector that say each other, unrolled once more, and turned round.
func TestTurns(t *testing.T) {
	h := mustNew(t, 100)
	p := mustAlloc(t, h, api.TPair, fix(1), pointer(3))
	v := mustAlloc(t, h, api.TVector, p, p)
	q := mustAlloc(t, h, api.TPair, fix(1), pointer(9))
	w := mustAlloc(t, h, api.TVector, p, q)
	expectAlike(t, h, "pairs", p, q)
	expectAlike(t, h, "vectors", v, w)
	expectApart(t, h, "a pair and a vector", p, v)
	mustSet(t, h, w, 0, v)
	expectApart(t, h, "turned round", v, w)
	expectApart(t, h, "turned round, one ahead", p, q)
}

// Things that say each other and lie across: each is alike the other because both are held for it.
func TestAcross(t *testing.T) {
	h := mustNew(t, 100)
	a, b := mustAlloc(t, h, api.TPair, pointer(3), pointer(0)), mustAlloc(t, h, api.TPair, pointer(0), pointer(3))
	expectAlike(t, h, "across", a, b)
	mustSet(t, h, b, 1, word.Null)
	expectApart(t, h, "across, but for one", a, b)
	x, y, z := mustAlloc(t, h, api.TVector, fix(0), fix(0), fix(0)), mustAlloc(t, h, api.TVector, fix(0), fix(0), fix(0)), mustAlloc(t, h, api.TVector, fix(0), fix(0), fix(0))
	for i, p := range []api.Word{x, y, z} {
		for j := range 3 {
			mustSet(t, h, p, j, []api.Word{x, y, z}[(i+j)%3])
		}
	}
	expectAlike(t, h, "x and y", x, y)
	expectAlike(t, h, "y and z", y, z)
	mustSet(t, h, z, 0, fix(0))
	expectApart(t, h, "x and y", x, y) // by way of z, which one of them comes to ahead of the other
	expectApart(t, h, "y and z", y, z)
}

// downward lays so many pairs, each of which is the cdr (or the car) of the next one, and tells the last.
func downward(t *testing.T, h *heap.Heap, count, cdr int) api.Word {
	t.Helper()
	list := word.Null
	for range count {
		fields := [2]api.Word{fix(1), fix(1)}
		fields[cdr] = list
		list = mustAlloc(t, h, api.TPair, fields[:]...)
	}
	return list
}

// Long lists, and such as go down by their cars, that are the same or not at their ends.
func TestLongAndDeep(t *testing.T) {
	const count = 50000
	for cdr := range 2 {
		h := mustNew(t, 6*count)
		a, b := downward(t, h, count, cdr), downward(t, h, count, cdr)
		expectAlike(t, h, "the same", a, b)
		next, _ := h.Get(b, api.TPair, cdr)
		expectApart(t, h, "one pair shorter", a, next)
		last := pointer(0) // it was laid first
		mustSet(t, h, last, cdr, word.False)
		expectApart(t, h, "another end", a, b)
		mustSet(t, h, last, cdr, word.Null)
		mustSet(t, h, last, 1-cdr, fix(2))
		expectApart(t, h, "another field at the end", a, b)
	}
}

// As long and as deep as the greatest heap allows.
func TestLongestAndDeepest(t *testing.T) {
	const count = api.MaxHeap / 6
	for cdr := range 2 {
		h := mustNew(t, api.MaxHeap)
		a, b := downward(t, h, count, cdr), downward(t, h, count, cdr)
		if !equal.Equal(h, a, b) {
			t.Error("not alike")
		}
		mustSet(t, h, pointer(0), cdr, word.False)
		if equal.Equal(h, a, b) {
			t.Error("alike, with another end")
		}
	}
}

// Two objects that fill the greatest heap.
func TestGreatest(t *testing.T) {
	const size = api.MaxHeap/2 - 1
	for _, kind := range likeTypes() {
		h := mustNew(t, api.MaxHeap)
		a, _ := h.Fill(kind, size, pointer(0))
		b, _ := h.Fill(kind, size, pointer(0))
		if h.Room() != 0 {
			t.Fatalf("%d words are left", h.Room())
		}
		expectAlike(t, h, "type "+strconv.Itoa(kind), a, b)
		mustSet(t, h, b, size-1, word.Null)
		expectApart(t, h, "type "+strconv.Itoa(kind), a, b)
	}
	h := mustNew(t, api.MaxHeap)
	a, _ := h.Fill(api.TBig, size, fix(1))
	b, _ := h.Fill(api.TBig, size, fix(1))
	expectApart(t, h, "no integer", a, b)
}

// A list whose car and cdr are the same one, and so on: as a tree it would have 2^200 leaves.
func TestDoubled(t *testing.T) {
	h := mustNew(t, 5000)
	doubled := func(leaf api.Word) api.Word {
		for range 200 {
			leaf = mustAlloc(t, h, api.TPair, leaf, leaf)
		}
		return leaf
	}
	a := doubled(fix(1))
	expectAlike(t, h, "the same", a, doubled(fix(1)))
	expectApart(t, h, "another leaf", a, doubled(fix(2)))
	expectApart(t, h, "one pair more", a, mustAlloc(t, h, api.TPair, doubled(fix(1)), a))
}

// knot lays vectors each of which has all of them as fields, turned by some places, and a last one; it tells the first.
func knot(t *testing.T, h *heap.Heap, count, turn int) []api.Word {
	t.Helper()
	start := h.Used()
	var out []api.Word
	for n := range count {
		var fields []api.Word
		for i := range count {
			fields = append(fields, pointer(start+(n*turn+i)%count*(count+2)))
		}
		out = append(out, mustAlloc(t, h, api.TVector, append(fields, fix(0))...))
	}
	return out
}

// Many objects that hang together many times: a pair of them each field.
func TestKnots(t *testing.T) {
	h := mustNew(t, 1000000)
	a, b := knot(t, h, 300, 1), knot(t, h, 300, 7)
	expectAlike(t, h, "knots", a[0], b[0])
	expectAlike(t, h, "within one knot", a[0], a[299])
	expectAlike(t, h, "of another size, all alike", knot(t, h, 5, 1)[0], knot(t, h, 5, 2)[3])
	expectApart(t, h, "of another size", a[0], knot(t, h, 299, 1)[0])
	mustSet(t, h, b[150], 300, fix(1))
	expectApart(t, h, "one field", a[0], b[0])
	mustSet(t, h, a[200], 300, fix(1))
	expectApart(t, h, "one field each, but not where it counts", a[0], b[0])
}

// Few texts and integers that are met in very many pairs are gone through once, and not once a pair.
func TestMetManyTimes(t *testing.T) {
	const count = 400
	for _, kind := range []int{api.TString, api.TBytes, api.TBig, api.TVector} {
		h := mustNew(t, api.MaxHeap)
		fields := bigFields(plus(power(1280), -1))
		var sides [2][]api.Word
		for i := range sides {
			for range count {
				sides[i] = append(sides[i], mustAlloc(t, h, kind, fields...))
			}
		}
		a, _ := h.Fill(api.TVector, count*count, word.Null)
		b, _ := h.Fill(api.TVector, count*count, word.Null)
		for n := range count * count {
			mustSet(t, h, a, n, sides[0][n/count])
			mustSet(t, h, b, n, sides[1][n%count])
		}
		what := "type " + strconv.Itoa(kind)
		expectAlike(t, h, what, a, b)
		mustSet(t, h, sides[1][count-1], 40, fix(3))
		expectApart(t, h, what, a, b)
	}
}
