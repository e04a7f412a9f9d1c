package arith_test

import (
	"math/big"
	"slices"
	"strconv"
	"testing"

	"athanor/api"
	"athanor/arith"
	"athanor/store"
	"athanor/word"
)

// Promise 11.1: Number.

func TestNumbersInWords(t *testing.T) {
	h := mustNew(t, 10)
	for _, n := range []int{0, 1, -1, 5, -5, 1<<31 - 1, 1 << 31, 1<<32 - 1, 1 << 32, -1 << 32, 1<<59 + 3, 1<<60 - 2, 1<<60 - 1, -1<<60 + 1, -1 << 60} {
		expectNumber(t, strconv.Itoa(n), h, fix(n), big.NewInt(int64(n)))
	}
}

// Each bit of a word that says a number counts.
func TestBitsOfNumbers(t *testing.T) {
	h := mustNew(t, 10)
	for bit := range 60 {
		expectNumber(t, "a bit", h, fix(1<<bit), power(bit))
		expectNumber(t, "a bit", h, fix(-1<<bit), minus(power(bit)))
	}
	expectNumber(t, "the last bit", h, 1<<63, minus(power(60)))
}

func TestWordsThatAreNoNumbers(t *testing.T) {
	h := mustNew(t, 50)
	mustAlloc(t, h, api.TBig, bigFields(power(64))...)
	for _, w := range noNumbers() {
		expectNoNumber(t, "no number", h, w)
	}
}

func TestNumbersInObjects(t *testing.T) {
	h := mustNew(t, 10000)
	count := 0
	for _, x := range edges() {
		if isFixed(x) {
			continue
		}
		count++
		p := mustAlloc(t, h, api.TBig, bigFields(x)...)
		expectNumber(t, "an object", h, p, x)
		expectNumber(t, "an object, once more", h, p, x)
	}
	if count < 50 {
		t.Errorf("only %d integers", count)
	}
}

// noIntegers are fields with which a TBig is no integer by chapter 9.
func noIntegers() map[string][]api.Word {
	return map[string][]api.Word{
		"no fields":            nil,
		"nought":               {fix(0)},
		"negative nought":      {fix(1)},
		"five":                 {fix(0), fix(5)},
		"minus five":           {fix(1), fix(5)},
		"the greatest Fix":     bigFields(plus(power(60), -1)),
		"the least Fix":        bigFields(minus(power(60))),
		"a limb of nought":     {fix(0), fix(0)},
		"last limb nought":     {fix(0), fix(1), fix(1), fix(1), fix(0)},
		"negative, likewise":   {fix(1), fix(1), fix(1), fix(1), fix(0)},
		"noughts ahead of all": {fix(0), fix(0), fix(0), fix(0)},
		"nought behind 40":     append(bigFields(plus(power(1280), -1)), fix(0)),
		"sign 2":               {fix(2), fix(1), fix(1), fix(1)},
		"sign -1":              {fix(-1), fix(1), fix(1), fix(1)},
		"sign true":            {word.True, fix(1), fix(1), fix(1)},
		"sign a letter":        {charWord(0), fix(1), fix(1), fix(1)},
		"sign a place":         {pointer(0), fix(1), fix(1), fix(1)},
		"sign nothing":         {3, fix(1), fix(1), fix(1)},
		"limb -1":              {fix(0), fix(1), fix(-1), fix(1)},
		"limb 2^32":            {fix(0), fix(1), fix(1 << 32), fix(1)},
		"last limb 2^32":       {fix(0), fix(1), fix(1), fix(1 << 32)},
		"limb null":            {fix(0), word.Null, fix(1), fix(1)},
		"limb a place":         {fix(0), fix(1), pointer(0), fix(1)},
		"limb a letter":        {fix(0), fix(1), fix(1), charWord(1)},
		"limb nothing":         {fix(0), fix(1), fix(1), 3},
		"41 limbs":             bigFields(power(1280)),
		"41 limbs, all 1":      append([]api.Word{fix(1)}, slices.Repeat([]api.Word{fix(1)}, 41)...),
		"very many limbs":      append([]api.Word{fix(0)}, slices.Repeat([]api.Word{fix(1)}, 2000)...),
	}
}

func TestObjectsThatAreNoIntegers(t *testing.T) {
	for what, fields := range noIntegers() {
		h := mustNew(t, 6000)
		p := mustAlloc(t, h, api.TBig, fields...)
		expectNoNumber(t, what, h, p)
		mustAlloc(t, h, api.TBig, bigFields(power(64))...)
		expectNoNumber(t, what+", and another behind it", h, p)
	}
}

// What an integer's fields are in an object of another type is none.
func TestObjectsOfEachType(t *testing.T) {
	for kind := api.TPair; kind <= api.TTable; kind++ {
		h := mustNew(t, 100)
		p, bare := mustAlloc(t, h, kind, bigFields(power(64))...), mustAlloc(t, h, kind)
		expectNoNumber(t, "no fields", h, bare)
		if kind == api.TBig {
			expectNumber(t, "TBig", h, p, power(64))
		} else {
			expectNoNumber(t, "type "+strconv.Itoa(kind), h, p)
		}
	}
}

// A number is what store shows as an integer, and the same one.
func TestNumbersOfStore(t *testing.T) {
	h, names := mustNew(t, 10000), store.NewNames()
	for _, x := range edges() {
		g := api.Graph{Nodes: []api.Node{{Kind: api.GInt, Text: x.String()}}, Roots: []int{0}}
		words, err := store.Put(h, names, g)
		if err != api.OK {
			t.Fatalf("%v: %d", x, err)
		}
		expectNumber(t, "put", h, words[0], x)
	}
}

// What is handed out is nobody else's.
func TestNumbersAreNewMemory(t *testing.T) {
	h := mustNew(t, 100)
	p := mustAlloc(t, h, api.TBig, bigFields(power(70))...)
	for _, w := range []api.Word{p, fix(5)} {
		want, _ := arith.Number(h, w)
		kept := toBig(want)
		scribbled, _ := arith.Number(h, w)
		scribble(scribbled)
		expectInt(t, "the one ahead", want, kept)
		expectNumber(t, "the word", h, w, kept)
	}
}

// scribble writes over all that an integer's row reaches.
func scribble(x api.Int) {
	row := x.Mag[:cap(x.Mag)]
	for i := range row {
		row[i] ^= 0x55555555
	}
}
