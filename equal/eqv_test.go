package equal_test

import (
	"math/big"
	"slices"
	"strconv"
	"testing"

	"athanor/api"
	"athanor/store"
	"athanor/word"
)

// Promise 10.1: Eqv. Of all that has no fields that count, Equal is the same.

// all are words of all kinds, no two of them the same, and none the place of an object of a small heap.
func all() []api.Word { return slices.Concat(plain(), silent(), heads(), nowhere()) }

func TestWordsOfEveryKind(t *testing.T) {
	h := mustNew(t, 50)
	mustAlloc(t, h, api.TVector, plain()...)
	for i, a := range all() {
		for j, b := range all() {
			expect(t, h, "words", a, b, i == j, i == j)
		}
	}
}

// A word and one that differs in one bit, be it one that says nothing.
func TestOneBit(t *testing.T) {
	h := mustNew(t, 10)
	mustAlloc(t, h, api.TVector, word.Null, word.True)
	mustAlloc(t, h, api.TPair, pointer(0), word.Null)
	for _, a := range append(all(), 0, pointer(0), pointer(3)) {
		for bit := range 64 {
			expectApart(t, h, "one bit", a, a^1<<bit)
		}
	}
}

// Each place says another thing, be it the place of an object, of a field, or of nothing.
func TestPlaces(t *testing.T) {
	h := mustNew(t, 20)
	mustAlloc(t, h, api.TVector, pointer(0), fix(1), fix(1))
	mustAlloc(t, h, api.TCell, fix(1))
	mustAlloc(t, h, api.TBig, bigFields(power(70))...)
	mustAlloc(t, h, api.TRib)
	for a := range 22 {
		for b := range 22 {
			expect(t, h, "places", pointer(a), pointer(b), a == b, a == b)
		}
	}
}

// Integers that need an object, each laid twice: the same as its like, and no other.
func TestIntegers(t *testing.T) {
	integers := beyond()
	h := mustNew(t, 10000)
	var first, second []api.Word
	for _, x := range integers {
		first = append(first, mustAlloc(t, h, api.TBig, bigFields(x)...))
	}
	for _, x := range integers {
		second = append(second, mustAlloc(t, h, api.TBig, bigFields(x)...))
	}
	for i := range integers {
		expectBoth(t, h, "itself", first[i], first[i])
		for j := range integers {
			expect(t, h, integers[i].String()+", "+integers[j].String(), first[i], second[j], i == j, i == j)
		}
	}
	if len(integers) < 50 {
		t.Errorf("only %d integers", len(integers))
	}
}

// What store lays of one text, laid twice.
func TestIntegersOfStore(t *testing.T) {
	h, names := mustNew(t, 1000), store.NewNames()
	for _, s := range []string{"1152921504606846976", "-1152921504606846977", "99999999999999999999", "-340282366920938463463374607431768211456"} {
		a, b := put(t, h, names, s)[0], put(t, h, names, s)[0]
		if a == b {
			t.Fatalf("%s: laid once", s)
		}
		expectBoth(t, h, s, a, b)
	}
	for _, s := range []string{"0", "-1", "1152921504606846975", "-1152921504606846976", "#\\a", "a", "()", "#t"} {
		expectBoth(t, h, s, put(t, h, names, s)[0], put(t, h, names, s)[0])
	}
}

// The sign, each limb, each bit of a limb, and how many limbs there are, tell integers apart.
func TestIntegersThatDiffer(t *testing.T) {
	for _, count := range []int{3, 4, 7, api.MaxLimbs - 1, api.MaxLimbs} {
		fields := slices.Repeat([]api.Word{fix(0x5a5a5a5a)}, 1+count)
		fields[0] = fix(0)
		h := mustNew(t, 5000)
		a := mustAlloc(t, h, api.TBig, fields...)
		end := h.Used()
		other := func(what string, fields []api.Word) {
			b := mustAlloc(t, h, api.TBig, fields...)
			expectApart(t, h, what, a, b)
			expectBoth(t, h, what+", its like", b, mustAlloc(t, h, api.TBig, fields...))
			h.Cut(end)
		}
		negative := slices.Clone(fields)
		negative[0] = fix(1)
		other("sign", negative)
		for limb := range count {
			for bit := range 32 {
				changed := slices.Clone(fields)
				changed[1+limb] ^= fix(1 << bit)
				other("limb "+strconv.Itoa(limb)+", bit "+strconv.Itoa(bit), changed)
			}
		}
		other("fewer limbs", fields[:count])
		if count < api.MaxLimbs {
			other("more limbs", append(slices.Clone(fields), fix(1)))
			other("more limbs ahead", slices.Insert(slices.Clone(fields), 1, fix(0)))
		}
	}
}

// noIntegers are fields with which a TBig is no integer by chapter 9.
func noIntegers() map[string][]api.Word {
	return map[string][]api.Word{
		"no fields":          nil,
		"nought":             {fix(0)},
		"negative nought":    {fix(1)},
		"five":               {fix(0), fix(5)},
		"minus five":         {fix(1), fix(5)},
		"the greatest Fix":   bigFields(plus(power(60), -1)),
		"the least Fix":      bigFields(new(big.Int).Neg(power(60))),
		"a limb of nought":   {fix(0), fix(0)},
		"last limb nought":   {fix(0), fix(1), fix(1), fix(1), fix(0)},
		"negative, likewise": {fix(1), fix(1), fix(1), fix(1), fix(0)},
		"sign 2":             {fix(2), fix(1), fix(1), fix(1)},
		"sign -1":            {fix(-1), fix(1), fix(1), fix(1)},
		"sign true":          {word.True, fix(1), fix(1), fix(1)},
		"sign a letter":      {charWord(0), fix(1), fix(1), fix(1)},
		"sign a place":       {pointer(0), fix(1), fix(1), fix(1)},
		"sign nothing":       {3, fix(1), fix(1), fix(1)},
		"limb -1":            {fix(0), fix(1), fix(-1), fix(1)},
		"limb 2^32":          {fix(0), fix(1), fix(1 << 32), fix(1)},
		"last limb 2^32":     {fix(0), fix(1), fix(1), fix(1 << 32)},
		"limb null":          {fix(0), word.Null, fix(1), fix(1)},
		"limb a place":       {fix(0), fix(1), pointer(0), fix(1)},
		"limb a letter":      {fix(0), fix(1), fix(1), charWord(1)},
		"41 limbs":           bigFields(power(1280)),
		"41 limbs, all 1":    append([]api.Word{fix(1)}, slices.Repeat([]api.Word{fix(1)}, 41)...),
		"very many limbs":    append([]api.Word{fix(0)}, slices.Repeat([]api.Word{fix(1)}, 2000)...),
	}
}

// Not Eqv, each with its like; the same word is Eqv itself all the same.
func TestNoIntegers(t *testing.T) {
	for what, fields := range noIntegers() {
		h := mustNew(t, 6000)
		a := mustAlloc(t, h, api.TBig, fields...)
		b := mustAlloc(t, h, api.TBig, fields...)
		expectApart(t, h, what, a, b)
		expectBoth(t, h, what, a, a)
		expectBoth(t, h, what, b, b)
		expectApart(t, h, what+", and an integer", a, mustAlloc(t, h, api.TBig, bigFields(power(70))...))
		expectApart(t, h, what+", within pairs", mustAlloc(t, h, api.TPair, a, word.Null), mustAlloc(t, h, api.TPair, b, word.Null))
		expectAlike(t, h, what+", within pairs", mustAlloc(t, h, api.TPair, a, word.Null), mustAlloc(t, h, api.TPair, a, word.Null))
	}
}

// An object within Fix's bounds is not the number, either.
func TestObjectsWithinFixesBounds(t *testing.T) {
	h := mustNew(t, 100)
	for _, n := range []int64{0, 1, -1, 5, 1<<60 - 1, -1 << 60} {
		p := mustAlloc(t, h, api.TBig, bigFields(big.NewInt(n))...)
		expectApart(t, h, strconv.FormatInt(n, 10), p, fix(int(n)))
	}
}

// What an integer's fields are in an object of another type is none.
func TestIntegersFieldsElsewhere(t *testing.T) {
	fields := bigFields(power(64))
	for kind := api.TPair; kind <= api.TTable; kind++ {
		if kind == api.TBig {
			continue
		}
		h := mustNew(t, 100)
		number := mustAlloc(t, h, api.TBig, fields...)
		a, b := mustAlloc(t, h, kind, fields...), mustAlloc(t, h, kind, fields...)
		like := slices.Contains(likeTypes(), kind)
		expect(t, h, "type "+strconv.Itoa(kind), a, b, false, like)
		expectApart(t, h, "type "+strconv.Itoa(kind), a, number)
	}
}

// Neither call changes anything of a heap.
func TestNothingIsChanged(t *testing.T) {
	h, names := mustNew(t, 1000), store.NewNames()
	var words []api.Word
	for range 2 {
		words = append(words, put(t, h, names, "#0=(a #0# 99999999999999999999 #(\"text\" #u8(1 2)) . #0#) 99999999999999999999 \"text\"")...)
	}
	before, room := row(h), h.Room()
	for i, a := range words {
		for j, b := range words {
			expect(t, h, "words", a, b, i == j || i%3 == 1 && j%3 == 1, i%3 == j%3)
		}
	}
	if got := row(h); !slices.Equal(got, before) || h.Room() != room {
		t.Errorf("%#x, and was %#x", got, before)
	}
}
