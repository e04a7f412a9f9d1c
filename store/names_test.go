package store_test

import (
	"math"
	"math/rand"
	"slices"
	"strings"
	"testing"

	"athanor/store"
)

// Promise 9.1: NewNames, Id, Text.

// wild are names of all sorts: none is another one, be they ever so near.
func wild() []string {
	return []string{
		"a", "", "b", "A", "a ", " a", "aa", "\x00", "a\x00", "\xff", "\xff\xfe", "\xc3", "é", "e\u0301", "�", "λ", "𝄞", "\xed\xa0\x80",
		"list->string", "0", "-1", strings.Repeat("x", 1<<16), strings.Repeat("x", 1<<16+1),
	}
}

func expectText(t *testing.T, names *store.Names, n int, want string, there bool) {
	t.Helper()
	if s, ok := names.Text(n); s != want || ok != there {
		t.Errorf("Text(%d): %q, %v, want %q, %v", n, s, ok, want, there)
	}
}

// expectNoName holds that numbers that are not below count have no name.
func expectNoName(t *testing.T, names *store.Names, count int) {
	t.Helper()
	for _, n := range []int{-1, -2, count, count + 1, count + 1000, 1 << 30, 1 << 32, math.MaxInt, math.MinInt} {
		expectText(t, names, n, "", false)
	}
}

func TestNoNames(t *testing.T) {
	names := store.NewNames()
	if names == nil {
		t.Fatal("nil")
	}
	expectNoName(t, names, 0)
}

// Numbers go from 0 on, in the order in which names are asked for first, and stay.
func TestIdsCountOn(t *testing.T) {
	names := store.NewNames()
	for n, s := range wild() {
		for range 3 {
			if got := names.Id(s); got != n {
				t.Fatalf("Id(%.20q): %d, want %d", s, got, n)
			}
		}
		expectNoName(t, names, n+1)
		for before, s := range wild()[:n+1] {
			expectText(t, names, before, s, true)
			if got := names.Id(s); got != before {
				t.Fatalf("Id(%.20q): %d, want %d", s, got, before)
			}
		}
	}
}

// Names in whatever order, again and again.
func TestIdsInAnyOrder(t *testing.T) {
	r := rand.New(rand.NewSource(91))
	for range 30 {
		names := store.NewNames()
		var order []string
		for range 100 {
			s := wild()[r.Intn(len(wild()))]
			if r.Intn(3) == 0 {
				s = strings.Repeat(string(rune('a'+r.Intn(3))), r.Intn(4))
			}
			want := slices.Index(order, s)
			if want < 0 {
				want = len(order)
				order = append(order, s)
			}
			if got := names.Id(s); got != want {
				t.Fatalf("Id(%.20q): %d, want %d", s, got, want)
			}
			names.Text(r.Intn(200) - 50)
		}
		if !slices.Equal(textsOf(names), order) {
			t.Fatalf("%.200q, want %.200q", textsOf(names), order)
		}
	}
}

// To ask for a text puts no name in.
func TestTextPutsNothingIn(t *testing.T) {
	names := store.NewNames()
	names.Text(0)
	names.Text(5)
	names.Id("a")
	names.Text(1)
	if got := names.Id("b"); got != 1 {
		t.Errorf("Id: %d", got)
	}
	expectNoName(t, names, 2)
}

// Each table is its own.
func TestTwoTables(t *testing.T) {
	a, b := store.NewNames(), store.NewNames()
	for n, s := range []string{"x", "y", "z"} {
		a.Id(s)
		expectNoName(t, b, n)
		b.Id(s + s)
	}
	if a.Id("z") != 2 || b.Id("z") != 3 || a.Id("xx") != 3 {
		t.Errorf("%q and %q", textsOf(a), textsOf(b))
	}
}

func TestManyNames(t *testing.T) {
	names := store.NewNames()
	const count = 200000
	spelt := func(n int) string {
		return string([]byte{byte(n), byte(n >> 8), byte(n >> 16)})
	}
	for n := range count {
		if got := names.Id(spelt(n)); got != n {
			t.Fatalf("Id: %d, want %d", got, n)
		}
	}
	for n := range count {
		if s, ok := names.Text(n); s != spelt(n) || !ok || names.Id(s) != n {
			t.Fatalf("Text(%d): %q, %v", n, s, ok)
		}
	}
	expectNoName(t, names, count)
}
