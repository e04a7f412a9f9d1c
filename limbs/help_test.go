package limbs_test

import (
	"math/big"
	"math/rand"
	"slices"
	"testing"

	"athanor/api"
	"athanor/limbs"
)

// toBig says an integer by the library's, which the tests hold it against.
func toBig(x api.Int) *big.Int {
	out := new(big.Int)
	for i := len(x.Mag) - 1; i >= 0; i-- {
		out.Lsh(out, 32).Or(out, big.NewInt(int64(x.Mag[i])))
	}
	if x.Neg {
		out.Neg(out)
	}
	return out
}

func toBigPower(bits int) *big.Int { return new(big.Int).Lsh(big.NewInt(1), uint(bits)) }

// edge is the greatest integer of n limbs.
func edge(n int) api.Int {
	row := make([]uint32, n)
	for i := range row {
		row[i] = 0xffffffff
	}
	return api.Int{Mag: row}
}

// power is 2 to the power of bits.
func power(bits int) api.Int {
	row := make([]uint32, bits/32+1)
	row[bits/32] = 1 << (bits % 32)
	return api.Int{Mag: row}
}

// random is an integer of just n limbs, some of them all noughts or ones.
func random(r *rand.Rand, n int) api.Int {
	row := make([]uint32, n)
	for i := range row {
		switch r.Intn(4) {
		case 0:
			row[i] = 0
		case 1:
			row[i] = 0xffffffff
		default:
			row[i] = r.Uint32()
		}
	}
	if row[n-1] == 0 {
		row[n-1] = 1
	}
	return api.Int{Neg: r.Intn(2) == 0, Mag: row}
}

// samples are good integers of all sizes, the edges among them; the same ones at each run.
func samples() []api.Int {
	r := rand.New(rand.NewSource(11))
	out := smallSamples()
	for _, n := range []int{api.MaxLimbs / 2, api.MaxLimbs/2 + 1, api.MaxLimbs - 1, api.MaxLimbs} {
		out = append(out, edge(n), limbs.Neg(edge(n)), power(32*n-1), limbs.Neg(power(32*n-32)))
	}
	for n := 1; n <= api.MaxLimbs; n++ {
		out = append(out, random(r, n), random(r, n))
	}
	return out
}

// smallSamples are good integers three of which may be multiplied and not be too big.
func smallSamples() []api.Int {
	r := rand.New(rand.NewSource(12))
	var out []api.Int
	for _, n := range []int64{0, 1, -1, 2, -2, 10, -36, 1<<31 - 1, 1 << 31, -1 << 31, 1<<32 - 1, 1 << 32, -1 << 32, 1<<63 - 1, -1 << 63} {
		out = append(out, limbs.From(n))
	}
	for _, n := range []int{2, 3, 13} {
		out = append(out, edge(n), limbs.Neg(edge(n)), power(32*n-1), random(r, n))
	}
	return out
}

func badIntegers() []api.Int {
	long := edge(api.MaxLimbs + 1)
	return []api.Int{
		{Neg: true}, {Mag: []uint32{0}}, {Neg: true, Mag: []uint32{0}}, {Mag: []uint32{1, 0}}, {Neg: true, Mag: []uint32{0, 0, 0}},
		{Mag: make([]uint32, api.MaxLimbs+5)}, long, {Neg: true, Mag: long.Mag}, edge(3 * api.MaxLimbs),
		{Mag: make([]uint32, 1<<20)}, edge(1 << 20),
	}
}

const tailSize = 3

// withTail is an integer whose row has room behind its end, with marks there.
func withTail(row ...uint32) api.Int {
	n := len(row)
	row = append(row, slices.Repeat([]uint32{0xdead}, tailSize)...)
	return api.Int{Mag: row[:n]}
}

// scribble writes over all that an integer's row reaches.
func scribble(x api.Int) {
	row := x.Mag[:cap(x.Mag)]
	for i := range row {
		row[i] ^= 0x55555555
	}
}

func copies(all []api.Int) []api.Int {
	var out []api.Int
	for _, x := range all {
		out = append(out, api.Int{Neg: x.Neg, Mag: slices.Clone(x.Mag)})
	}
	return out
}

func isZero(x api.Int) bool { return !x.Neg && len(x.Mag) == 0 }

func size(x api.Int) api.Int { return api.Int{Mag: x.Mag} }

// sure is an answer that is no error.
func sure(x api.Int, err api.Errno) api.Int {
	if err != api.OK {
		panic("an error where there is none to be")
	}
	return x
}

func same(t *testing.T, what string, got, want api.Int) {
	t.Helper()
	if got.Neg != want.Neg || !slices.Equal(got.Mag, want.Mag) || limbs.Cmp(got, want) != 0 {
		t.Fatalf("%s: %v is not %v", what, got, want)
	}
}

func expect(t *testing.T, what string, got api.Int, want *big.Int) {
	t.Helper()
	if !limbs.Good(got) || toBig(got).Cmp(want) != 0 {
		t.Fatalf("%s: %v, want %v", what, got, want)
	}
}

func expectOrBig(t *testing.T, what string, got api.Int, err api.Errno, want *big.Int) {
	t.Helper()
	if want.BitLen() > 32*api.MaxLimbs {
		if err != api.ErrBig || !isZero(got) {
			t.Fatalf("%s: %v, %d, want ErrBig", what, got, err)
		}
		return
	}
	if err != api.OK {
		t.Fatalf("%s: error %d, want %v", what, err, want)
	}
	expect(t, what, got, want)
}
