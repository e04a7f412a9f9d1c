package arith_test

import (
	"math/big"
	"math/rand"
	"testing"

	"athanor/api"
	"athanor/arith"
	"athanor/equal"
	"athanor/gc"
	"athanor/heap"
	"athanor/store"
)

// Promise 11.4: what follows.

// Lay's word is that number; numbers that are the same are the same word, or objects that are Eqv; others are neither.
func TestSameNumbers(t *testing.T) {
	all := edges()
	h := mustNew(t, 20000)
	var first, second []api.Word
	for _, x := range all {
		first, second = append(first, mustLay(t, h, x)), append(second, mustLay(t, h, x))
	}
	for i, x := range all {
		expectNumber(t, "laid", h, first[i], x)
		if same := first[i] == second[i]; same != isFixed(x) {
			t.Fatalf("%v: %#x, %#x", x, first[i], second[i])
		}
		for j := range all {
			if got := equal.Eqv(h, first[i], second[j]); got != (i == j) {
				t.Fatalf("%v, %v: Eqv is %t", x, all[j], got)
			}
		}
	}
}

// One number, reached by several ways, has one form.
func TestSameResults(t *testing.T) {
	r := rand.New(rand.NewSource(113))
	for range 3000 {
		a, b := random(r, 18), random(r, 18)
		h := mustNew(t, 1000)
		v, w := mustLay(t, h, a), mustLay(t, h, b)
		sum := mustDo(t, h, arith.Plus, v, w)
		expectSame(t, h, sum, mustDo(t, h, arith.Plus, w, v))
		expectSame(t, h, sum, mustLay(t, h, new(big.Int).Add(a, b)))
		expectSame(t, h, mustDo(t, h, arith.Minus, sum, w), v)
		product := mustDo(t, h, arith.Times, v, w)
		expectSame(t, h, product, mustDo(t, h, arith.Times, w, v))
		if b.Sign() != 0 {
			expectSame(t, h, mustDo(t, h, arith.Quotient, product, w), v)
			expectSame(t, h, mustDo(t, h, arith.Remainder, product, w), fix(0))
			expectSame(t, h, mustDo(t, h, arith.Modulo, product, w), fix(0))
		}
	}
}

func mustDo(t *testing.T, h *heap.Heap, op int, a, b api.Word) api.Word {
	t.Helper()
	w, err := arith.Do(h, op, a, b)
	if err != api.OK {
		t.Fatalf("op %d of %#x, %#x: %d", op, a, b, err)
	}
	return w
}

// expectSame holds that two words are one number, told by each way there is.
func expectSame(t *testing.T, h *heap.Heap, a, b api.Word) {
	t.Helper()
	if !equal.Eqv(h, a, b) {
		t.Fatalf("%#x and %#x are not Eqv", a, b)
	}
	if n, err := arith.Cmp(h, a, b); n != 0 || err != api.OK {
		t.Fatalf("Cmp(%#x, %#x): %d, %d", a, b, n, err)
	}
}

// a is (a quotient b) b and (a remainder b); a and (a modulo b) differ by a multiple of b.
func TestLawsOfDivision(t *testing.T) {
	r := rand.New(rand.NewSource(114))
	pairs := [][2]*big.Int{}
	for _, a := range edges() {
		for _, b := range edges() {
			pairs = append(pairs, [2]*big.Int{a, b})
		}
	}
	for range 5000 {
		pairs = append(pairs, [2]*big.Int{random(r, api.MaxLimbs), random(r, 1+r.Intn(api.MaxLimbs))})
	}
	for _, pair := range pairs {
		if pair[1].Sign() != 0 {
			expectLaws(t, pair[0], pair[1])
		}
	}
}

func expectLaws(t *testing.T, a, b *big.Int) {
	t.Helper()
	x, y := fromBig(a), fromBig(b)
	quotient, err1 := arith.Reckon(arith.Quotient, x, y)
	rest, err2 := arith.Reckon(arith.Remainder, x, y)
	modulo, err3 := arith.Reckon(arith.Modulo, x, y)
	product, err4 := arith.Reckon(arith.Times, quotient, y)
	sum, err5 := arith.Reckon(arith.Plus, product, rest)
	if err1 != api.OK || err2 != api.OK || err3 != api.OK || err4 != api.OK || err5 != api.OK {
		t.Fatalf("%v, %v: errors %d, %d, %d, %d, %d", a, b, err1, err2, err3, err4, err5)
	}
	expectInt(t, "the law of quotient and remainder", sum, a)
	difference := new(big.Int).Sub(a, toBig(modulo)) // by the library's, for it may be too big
	if difference.Rem(difference, b).Sign() != 0 {
		t.Fatalf("%v modulo %v: %v", a, b, toBig(modulo))
	}
	for _, nearer := range []api.Int{rest, modulo} {
		if toBig(nearer).CmpAbs(b) >= 0 {
			t.Fatalf("%v, %v: %v", a, b, toBig(nearer))
		}
	}
	if toBig(modulo).Sign()*b.Sign() < 0 || toBig(rest).Sign()*a.Sign() < 0 {
		t.Fatalf("%v, %v: rest %v, modulo %v", a, b, toBig(rest), toBig(modulo))
	}
}

// A collection changes no number, and store shows it.
func TestCollections(t *testing.T) {
	r := rand.New(rand.NewSource(115))
	for range 500 {
		h := mustNew(t, 1000)
		var all []*big.Int
		var words []api.Word
		for range 1 + r.Intn(10) {
			h.Fill(api.TVector, r.Intn(5), fix(0))
			x := random(r, api.MaxLimbs)
			all, words = append(all, x), append(words, mustLay(t, h, x))
		}
		words = gc.Collect(h, words...)
		sum := 0
		for i, x := range all {
			expectNumber(t, "collected", h, words[i], x)
			if n := store.Show(h, nil, words[i]).Nodes[0]; n.Kind != api.GInt || n.Text != x.String() {
				t.Fatalf("%v: shown as %v", x, n)
			}
			sum += arith.Need(fromBig(x))
		}
		if h.Used() != sum {
			t.Fatalf("%d used, want %d", h.Used(), sum)
		}
	}
}

// held are words of a heap, and the numbers that they are to be.
type held struct {
	heap  *heap.Heap
	words []api.Word
	all   []*big.Int
}

// reckon does one operation of two that are held, and holds its result, too.
func (s *held) reckon(t *testing.T, op, i, j int) api.Errno {
	t.Helper()
	want, err := reckoned(op, s.all[i], s.all[j])
	if err == api.OK && need(want) > s.heap.Room() {
		err = api.ErrFull
	}
	w := expectDo(t, s.heap, op, s.words[i], s.words[j], want, err)
	if err == api.OK {
		s.words, s.all = append(s.words, w), append(s.all, want)
	}
	return err
}

// collect drops some that are held, but none of the first ones, and collects.
func (s *held) collect(r *rand.Rand, first int) {
	var words []api.Word
	var all []*big.Int
	for i, w := range s.words {
		if i < first || r.Intn(3) == 0 {
			words, all = append(words, w), append(all, s.all[i])
		}
	}
	s.words, s.all = gc.Collect(s.heap, words...), all
}

// Many operations in one heap, one after the other, held against the chapter written out a second time; where there is no room, nothing is changed, and a collection makes some.
func TestAgainstTheModel(t *testing.T) {
	r := rand.New(rand.NewSource(116))
	met := map[api.Errno]int{}
	for range 200 {
		s := &held{heap: mustNew(t, 100+r.Intn(400))}
		for _, x := range []*big.Int{big.NewInt(0), big.NewInt(-1), plus(power(60), -1), random(r, 3), plus(power(700), 1)} {
			s.words, s.all = append(s.words, mustLay(t, s.heap, x)), append(s.all, x)
		}
		first := len(s.words)
		for range 150 {
			err := s.reckon(t, []int{0, 1, 2, 3, 3, 4, 5, 6}[r.Intn(8)], r.Intn(len(s.words)), r.Intn(len(s.words)))
			met[err]++
			if err == api.ErrFull {
				s.collect(r, first)
			}
		}
		for i, x := range s.all {
			expectNumber(t, "as it was", s.heap, s.words[i], x)
		}
	}
	for _, err := range []api.Errno{api.OK, api.ErrArg, api.ErrZero, api.ErrBig, api.ErrFull} {
		if met[err] < 200 {
			t.Errorf("error %d met %d times", err, met[err])
		}
	}
}
