package limbs_test

import (
	"math"
	"math/big"
	"slices"
	"testing"

	"athanor/api"
	"athanor/limbs"
)

// Promise 1.1: what is good, the bounds of 64 bits, order, the other sign.

func TestGood(t *testing.T) {
	full := make([]uint32, api.MaxLimbs+1)
	for i := range full {
		full[i] = 1
	}
	for _, c := range []struct {
		name string
		x    api.Int
		want bool
	}{
		{"nought", api.Int{}, true},
		{"nought of length 0", api.Int{Mag: []uint32{}}, true},
		{"nought with a sign", api.Int{Neg: true}, false},
		{"nought of length 0 with a sign", api.Int{Neg: true, Mag: []uint32{}}, false},
		{"one", api.Int{Mag: []uint32{1}}, true},
		{"minus one", api.Int{Neg: true, Mag: []uint32{1}}, true},
		{"a nought as only limb", api.Int{Mag: []uint32{0}}, false},
		{"a nought as last limb", api.Int{Mag: []uint32{1, 0}}, false},
		{"noughts below", api.Int{Mag: []uint32{0, 0, 1}}, true},
		{"MaxLimbs limbs", api.Int{Mag: full[:api.MaxLimbs]}, true},
		{"MaxLimbs limbs with a sign", api.Int{Neg: true, Mag: full[:api.MaxLimbs]}, true},
		{"one limb more", api.Int{Mag: full}, false},
	} {
		if got := limbs.Good(c.x); got != c.want {
			t.Errorf("Good(%s) = %v", c.name, got)
		}
	}
}

func TestFrom(t *testing.T) {
	for _, c := range []struct {
		n    int64
		neg  bool
		want []uint32
	}{
		{0, false, nil},
		{1, false, []uint32{1}},
		{-1, true, []uint32{1}},
		{1<<32 - 1, false, []uint32{0xffffffff}},
		{1 << 32, false, []uint32{0, 1}},
		{-1 << 32, true, []uint32{0, 1}},
		{math.MaxInt64, false, []uint32{0xffffffff, 0x7fffffff}},
		{-math.MaxInt64, true, []uint32{0xffffffff, 0x7fffffff}},
		{math.MinInt64, true, []uint32{0, 0x80000000}},
	} {
		got := limbs.From(c.n)
		if got.Neg != c.neg || !slices.Equal(got.Mag, c.want) {
			t.Errorf("From(%d) = %v", c.n, got)
		}
		if back, ok := limbs.To(got); back != c.n || !ok {
			t.Errorf("To(From(%d)) = %d, %v", c.n, back, ok)
		}
	}
}

func TestToPastTheBounds(t *testing.T) {
	for _, x := range []api.Int{
		{Mag: []uint32{0, 0x80000000}},
		{Neg: true, Mag: []uint32{1, 0x80000000}},
		{Mag: []uint32{0xffffffff, 0xffffffff}},
		{Neg: true, Mag: []uint32{0xffffffff, 0xffffffff}},
		{Mag: []uint32{0, 0, 1}},
		{Neg: true, Mag: []uint32{5, 0, 1}},
		edge(api.MaxLimbs),
	} {
		if n, ok := limbs.To(x); n != 0 || ok {
			t.Errorf("To(%v) = %d, %v", x, n, ok)
		}
	}
}

func TestCmp(t *testing.T) {
	all := samples()
	for _, a := range all {
		for _, b := range all {
			if got, want := limbs.Cmp(a, b), toBig(a).Cmp(toBig(b)); got != want {
				t.Fatalf("Cmp(%v, %v) = %d, want %d", a, b, got, want)
			}
		}
	}
}

func TestNeg(t *testing.T) {
	for _, a := range samples() {
		expect(t, "Neg", limbs.Neg(a), new(big.Int).Neg(toBig(a)))
	}
	if x := limbs.Neg(limbs.From(0)); x.Neg || len(x.Mag) != 0 {
		t.Errorf("Neg(0) = %v", x)
	}
}

// Promise 1.2: sums, differences, products, quotients and rests, and where they are too big.

func TestAddSubMul(t *testing.T) {
	all := samples()
	for _, a := range all {
		for _, b := range all {
			x, y := toBig(a), toBig(b)
			sum, err := limbs.Add(a, b)
			expectOrBig(t, "Add", sum, err, new(big.Int).Add(x, y))
			diff, err := limbs.Sub(a, b)
			expectOrBig(t, "Sub", diff, err, new(big.Int).Sub(x, y))
			product, err := limbs.Mul(a, b)
			expectOrBig(t, "Mul", product, err, new(big.Int).Mul(x, y))
		}
	}
}

func TestDiv(t *testing.T) {
	all := samples()
	for _, a := range all {
		for _, b := range all {
			checkDiv(t, a, b)
		}
	}
}

func checkDiv(t *testing.T, a, b api.Int) {
	t.Helper()
	q, r, err := limbs.Div(a, b)
	y := toBig(b)
	if y.Sign() == 0 {
		if err != api.ErrZero || !isZero(q) || !isZero(r) {
			t.Fatalf("Div(%v, 0) = %v, %v, %d", a, q, r, err)
		}
		return
	}
	if err != api.OK {
		t.Fatalf("Div(%v, %v): error %d", a, b, err)
	}
	quotient, rest := new(big.Int).QuoRem(toBig(a), y, new(big.Int))
	expect(t, "Div's quotient", q, quotient)
	expect(t, "Div's rest", r, rest)
}

func TestDivSigns(t *testing.T) {
	for _, c := range [][4]int64{
		{7, 2, 3, 1}, {-7, 2, -3, -1}, {7, -2, -3, 1}, {-7, -2, 3, -1},
		{6, 2, 3, 0}, {-6, 2, -3, 0}, {6, -2, -3, 0}, {-6, -2, 3, 0},
		{1, 2, 0, 1}, {-1, 2, 0, -1}, {1, -2, 0, 1}, {-1, -2, 0, -1},
		{0, 5, 0, 0}, {0, -5, 0, 0},
		{1 << 40, 1 << 40, 1, 0}, {-(1 << 40), 1 << 40, -1, 0},
	} {
		q, r, err := limbs.Div(limbs.From(c[0]), limbs.From(c[1]))
		if err != api.OK || limbs.Cmp(q, limbs.From(c[2])) != 0 || limbs.Cmp(r, limbs.From(c[3])) != 0 {
			t.Errorf("Div(%d, %d) = %v, %v, %d", c[0], c[1], q, r, err)
		}
		if !limbs.Good(q) || !limbs.Good(r) {
			t.Errorf("Div(%d, %d) is not good: %v, %v", c[0], c[1], q, r)
		}
	}
}

// These make the guess of a quotient's limb one too great, or need its bound.
func TestDivHardLimbs(t *testing.T) {
	hard := []uint32{0, 1, 2, 0x7fffffff, 0x80000000, 0x80000001, 0xfffffffe, 0xffffffff}
	row := func(n, size int) []uint32 {
		out := make([]uint32, size)
		for i := range out {
			out[i] = hard[n%len(hard)]
			n /= len(hard)
		}
		return out
	}
	for i := 0; i < 8*8*8*8; i++ {
		a := row(i, 4)
		if a[3] == 0 {
			continue
		}
		for j := 0; j < 8*8*8; j++ {
			b := row(j, 3)
			if b[2] == 0 {
				b = b[:2]
			}
			if b[1] == 0 {
				continue
			}
			checkDiv(t, api.Int{Mag: a}, api.Int{Mag: b})
		}
	}
}

func TestBig(t *testing.T) {
	most, least := edge(api.MaxLimbs), limbs.Neg(edge(api.MaxLimbs))
	one, minus, nought := limbs.From(1), limbs.From(-1), limbs.From(0)
	half := power(32 * api.MaxLimbs / 2)
	for _, c := range []struct {
		name string
		do   func(a, b api.Int) (api.Int, api.Errno)
		a, b api.Int
		want api.Errno
	}{
		{"most + 0", limbs.Add, most, nought, api.OK},
		{"most + 1", limbs.Add, most, one, api.ErrBig},
		{"1 + most", limbs.Add, one, most, api.ErrBig},
		{"most + -1", limbs.Add, most, minus, api.OK},
		{"most + most", limbs.Add, most, most, api.ErrBig},
		{"most + least", limbs.Add, most, least, api.OK},
		{"least + -1", limbs.Add, least, minus, api.ErrBig},
		{"least - 1", limbs.Sub, least, one, api.ErrBig},
		{"least - -1", limbs.Sub, least, minus, api.OK},
		{"most - -1", limbs.Sub, most, minus, api.ErrBig},
		{"0 - most", limbs.Sub, nought, most, api.OK},
		{"most * 1", limbs.Mul, most, one, api.OK},
		{"most * -1", limbs.Mul, most, minus, api.OK},
		{"most * 0", limbs.Mul, most, nought, api.OK},
		{"most * 2", limbs.Mul, most, limbs.From(2), api.ErrBig},
		{"most * most", limbs.Mul, most, most, api.ErrBig},
		{"half * half", limbs.Mul, half, half, api.ErrBig},
		{"half * (half - 1)", limbs.Mul, half, edge(api.MaxLimbs / 2), api.OK},
		{"half * -half", limbs.Mul, half, limbs.Neg(half), api.ErrBig},
	} {
		x, err := c.do(c.a, c.b)
		if err != c.want || err != api.OK && !isZero(x) || !limbs.Good(x) {
			t.Errorf("%s = %v, %d; want error %d", c.name, x, err, c.want)
		}
	}
	for _, x := range []api.Int{most, least} {
		q, r, err := limbs.Div(x, minus)
		if err != api.OK || limbs.Cmp(q, limbs.Neg(x)) != 0 || !isZero(r) {
			t.Errorf("Div(%v, -1) = %v, %v, %d", x, q, r, err)
		}
	}
}

// Promise 1.4: the laws of integers, as far as none is too big.

func TestLaws(t *testing.T) {
	all := smallSamples()
	for _, a := range all {
		for _, b := range all {
			same(t, "a+b", sure(limbs.Add(a, b)), sure(limbs.Add(b, a)))
			same(t, "ab", sure(limbs.Mul(a, b)), sure(limbs.Mul(b, a)))
			same(t, "a-b", sure(limbs.Sub(a, b)), limbs.Neg(sure(limbs.Sub(b, a))))
			same(t, "a+b-b", sure(limbs.Sub(sure(limbs.Add(a, b)), b)), a)
			checkRest(t, a, b)
			for _, c := range all {
				same(t, "(a+b)+c", sure(limbs.Add(sure(limbs.Add(a, b)), c)), sure(limbs.Add(a, sure(limbs.Add(b, c)))))
				same(t, "(ab)c", sure(limbs.Mul(sure(limbs.Mul(a, b)), c)), sure(limbs.Mul(a, sure(limbs.Mul(b, c)))))
				same(t, "a(b+c)", sure(limbs.Mul(a, sure(limbs.Add(b, c)))), sure(limbs.Add(sure(limbs.Mul(a, b)), sure(limbs.Mul(a, c)))))
			}
		}
	}
}

func checkRest(t *testing.T, a, b api.Int) {
	t.Helper()
	q, r, err := limbs.Div(a, b)
	if err == api.ErrZero {
		return
	}
	same(t, "qb+r", sure(limbs.Add(sure(limbs.Mul(q, b)), r)), a)
	if limbs.Cmp(size(r), size(b)) >= 0 {
		t.Fatalf("the rest %v of %v is not nearer to nought than %v", r, a, b)
	}
	if !isZero(r) && r.Neg != a.Neg {
		t.Fatalf("the rest %v of %v has another sign", r, a)
	}
}

// R1: integers that are not good let no call panic; a Go test fails at a panic.
func TestBadIntegersEnd(t *testing.T) {
	bad := badIntegers()
	others := append(slices.Clone(bad), limbs.From(0), limbs.From(-3), edge(api.MaxLimbs))
	for _, a := range bad {
		if limbs.Good(a) {
			t.Fatalf("%v is good", a)
		}
		limbs.To(a)
		limbs.Neg(a)
		for radix := -1; radix <= 38; radix++ {
			limbs.Print(a, radix)
		}
		for _, b := range others {
			for _, p := range [][2]api.Int{{a, b}, {b, a}} {
				limbs.Cmp(p[0], p[1])
				limbs.Add(p[0], p[1])
				limbs.Sub(p[0], p[1])
				limbs.Mul(p[0], p[1])
				limbs.Div(p[0], p[1])
			}
		}
	}
}

// R3: an empty row is nought, be it nil or of length 0.
func TestEmptyRow(t *testing.T) {
	empty := api.Int{Mag: []uint32{}}
	if limbs.Cmp(empty, api.Int{}) != 0 || !isZero(limbs.Neg(empty)) {
		t.Error("an empty row is another nought")
	}
	if n, ok := limbs.To(empty); n != 0 || !ok {
		t.Error("To", n, ok)
	}
	if s, err := limbs.Print(empty, 10); s != "0" || err != api.OK {
		t.Error("Print", s, err)
	}
	if _, _, err := limbs.Div(limbs.From(1), empty); err != api.ErrZero {
		t.Error("Div", err)
	}
	same(t, "1+0", sure(limbs.Add(limbs.From(1), empty)), limbs.From(1))
}

// R4: what is handed in is not changed, behind its end either; what is handed out is new memory.
func TestNothingShared(t *testing.T) {
	a, b := withTail(9, 8, 7), withTail(3, 2)
	small := withTail(5)
	for _, p := range [][2]api.Int{{a, b}, {b, a}, {a, small}, {small, a}, {a, api.Int{}}, {api.Int{}, a}, {a, a}} {
		var given []api.Int
		for _, do := range []func(a, b api.Int) (api.Int, api.Errno){limbs.Add, limbs.Sub, limbs.Mul} {
			x, _ := do(p[0], p[1])
			given = append(given, x)
		}
		q, r, _ := limbs.Div(p[0], p[1])
		given = append(given, q, r, limbs.Neg(p[0]), limbs.Neg(p[1]))
		limbs.Print(p[0], 10)
		keep := copies(given)
		for i, x := range given {
			scribble(x)
			for j := range given {
				if j != i && !slices.Equal(given[j].Mag, keep[j].Mag) {
					t.Fatalf("answers %d and %d share memory", i, j)
				}
			}
			given[i] = keep[i]
		}
	}
	for i, want := range []api.Int{withTail(9, 8, 7), withTail(3, 2), withTail(5)} {
		got := []api.Int{a, b, small}[i].Mag
		if n := len(want.Mag) + tailSize; !slices.Equal(got[:n], want.Mag[:n]) {
			t.Fatalf("an argument was changed: %v", got[:n])
		}
	}
}

func TestCapacityIsCut(t *testing.T) {
	x := sure(limbs.Sub(edge(5), edge(5)))
	y := sure(limbs.Sub(sure(limbs.Add(edge(5), limbs.From(1))), edge(5)))
	q, r, _ := limbs.Div(edge(5), edge(3))
	for _, z := range []api.Int{x, y, q, r, limbs.From(1), limbs.Neg(limbs.From(1))} {
		if cap(z.Mag) != len(z.Mag) {
			t.Errorf("%v reaches %d limbs behind its end", z, cap(z.Mag)-len(z.Mag))
		}
	}
}
