package equal_test

import (
	"math/big"
	"slices"
	"testing"

	"athanor/api"
	"athanor/heap"
)

// The chapter written out a second time: what is told apart grows, until no more of it is found.

type object struct {
	kind   int
	fields []api.Word
}

// objects lie one behind the other.
type objects []object

// place is where an object begins; of as many as there are, where what is used ends.
func (all objects) place(n int) int {
	at := 0
	for _, o := range all[:n] {
		at += 1 + len(o.fields)
	}
	return at
}

// find is the number of the object whose place a word says; -1, if it is none.
func (all objects) find(w api.Word) int {
	at := 0
	for n, o := range all {
		if w == pointer(at) {
			return n
		}
		at += 1 + len(o.fields)
	}
	return -1
}

// lay lays them into a heap that has one word more.
func (all objects) lay(t *testing.T) *heap.Heap {
	t.Helper()
	h := mustNew(t, all.place(len(all))+1)
	for _, o := range all {
		mustAlloc(t, h, o.kind, o.fields...)
	}
	return h
}

// integer is the integer that an object is; nil, if it is none.
func (o object) integer() *big.Int {
	n := len(o.fields)
	if o.kind != api.TBig || n < 2 || n > 1+api.MaxLimbs || o.fields[0] > 8 || o.fields[n-1] == 0 {
		return nil
	}
	x := new(big.Int)
	for _, w := range slices.Backward(o.fields[1:]) {
		if w%8 != 0 || w/8 >= 1<<32 {
			return nil
		}
		x.Add(x.Lsh(x, 32), big.NewInt(int64(w/8)))
	}
	if o.fields[0] == 8 {
		x.Neg(x)
	} else if o.fields[0] != 0 {
		return nil
	}
	if isFixed(x) {
		return nil
	}
	return x
}

func (all objects) eqv(a, b api.Word) bool {
	x, y := all.find(a), all.find(b)
	if a == b || x < 0 || y < 0 {
		return a == b
	}
	i, j := all[x].integer(), all[y].integer()
	return i != nil && j != nil && i.Cmp(j) == 0
}

// apart tells which objects are told apart of which, if fields alone may do it.
type apart [][]bool

// tells tells whether two words are told apart, as far as is known.
func (known apart) tells(all objects, a, b api.Word) bool {
	if all.eqv(a, b) {
		return false
	}
	x, y := all.find(a), all.find(b)
	if x < 0 || y < 0 || all[x].kind != all[y].kind || len(all[x].fields) != len(all[y].fields) {
		return true
	}
	return !slices.Contains(likeTypes(), all[x].kind) || known[x][y]
}

// fieldsTell tells whether two fields that stand at one place are told apart, as far as is known.
func (known apart) fieldsTell(all objects, x, y int) bool {
	for i, v := range all[x].fields {
		w := all[y].fields[i]
		if kind := all[x].kind; kind == api.TString || kind == api.TBytes {
			if v != w {
				return true
			}
		} else if known.tells(all, v, w) {
			return true
		}
	}
	return false
}

// apartOf is all that is told apart.
func (all objects) apartOf() apart {
	known := make(apart, len(all))
	for x := range all {
		known[x] = make([]bool, len(all))
	}
	for changed := true; changed; {
		changed = false
		for x := range all {
			for y := range all {
				if !known.tells(all, pointer(all.place(x)), pointer(all.place(y))) && x != y && len(all[x].fields) == len(all[y].fields) && known.fieldsTell(all, x, y) {
					known[x][y], changed = true, true
				}
			}
		}
	}
	return known
}
