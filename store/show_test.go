package store_test

import (
	"math"
	"slices"
	"strings"
	"testing"

	"athanor/api"
	"athanor/graph"
	"athanor/heap"
	"athanor/store"
	"athanor/word"
)

// Promise 9.3: Show, of each word and of objects of each type.

// expectShow holds that words are shown as a graph, and that nothing is changed.
func expectShow(t *testing.T, h *heap.Heap, table *store.Names, want api.Graph, roots ...api.Word) {
	t.Helper()
	before, handed := stateOf(h, table), slices.Clone(roots)
	got := store.Show(h, table, roots...)
	expectGraph(t, "Show", got, want)
	if !graph.Good(got) {
		t.Fatalf("not good:\n%s", tell(got))
	}
	expectGraph(t, "Canon", got, graph.Canon(got))
	expectState(t, h, table, before)
	if !slices.Equal(roots, handed) {
		t.Fatalf("the roots were %#x, and are %#x", handed, roots)
	}
}

// expectObject holds that an object with those fields is shown as a graph; where it lies does not count.
func expectObject(t *testing.T, want api.Graph, kind int, fields ...api.Word) {
	t.Helper()
	for _, ahead := range []int{0, 3} {
		h := mustNew(t, 2000)
		h.Fill(api.TCell, ahead, word.Null)
		expectShow(t, h, store.NewNames(), want, mustAlloc(t, h, kind, fields...))
	}
}

func expectVoid(t *testing.T, kind int, fields ...api.Word) {
	t.Helper()
	expectObject(t, one(void()), kind, fields...)
}

func TestShowWords(t *testing.T) {
	h, table := mustNew(t, 10), store.NewNames()
	for w, n := range map[api.Word]api.Node{
		word.Null: null(), word.False: node(api.GBool, 0, ""), word.True: node(api.GBool, 1, ""), word.Eof: node(api.GEof, 0, ""), word.Void: void(),
		fix(0): integer("0"), fix(5): integer("5"), fix(-5): integer("-5"), fix(1<<60 - 1): integer("1152921504606846975"), fix(-1 << 60): integer("-1152921504606846976"),
		charWord(0): letter(0), charWord('a'): letter('a'), charWord(0xd7ff): letter(0xd7ff), charWord(0xe000): letter(0xe000), charWord(0x10ffff): letter(0x10ffff),
		primWord(0): node(api.GProc, 0, ""), primWord(api.PrLoad): node(api.GProc, 0, ""), primWord(1000): node(api.GProc, 0, ""), primWord(1 << 30): node(api.GProc, 0, ""),
	} {
		expectShow(t, h, table, one(n), w)
	}
	for _, w := range silent() {
		expectShow(t, h, table, one(void()), w)
	}
	for _, w := range []api.Word{head(1, 0), head(api.TPair, 2), head(22, 5), head(23, 0), head(255, 1<<40)} {
		expectShow(t, h, table, one(void()), w)
	}
	expectShow(t, h, table, api.Graph{})
}

// A name that is in the table is told; one that is not is nothing. No node is a name without letters, or one that is no UTF-8.
func TestShowNames(t *testing.T) {
	h, table := mustNew(t, 10), store.NewNames()
	for _, s := range wild() {
		table.Id(s)
	}
	for n, s := range wild() {
		want := one(symbol(s))
		if s == "" || s[0] >= 0x80 && !slices.Contains([]string{"é", "�", "λ", "𝄞"}, s) {
			want = one(void())
		}
		expectShow(t, h, table, want, nameWord(n))
	}
	for _, n := range []int{len(wild()), len(wild()) + 1, 1000, 1 << 30, 1<<30 + 1, 1 << 40} {
		expectShow(t, h, table, one(void()), nameWord(n))
		table.Text(n)
	}
	expectShow(t, h, store.NewNames(), one(void()), nameWord(0))
}

// Roots are told one by one; words that say the same are one thing, and so are atoms.
func TestShowRoots(t *testing.T) {
	h, table := mustNew(t, 30), store.NewNames()
	a := mustAlloc(t, h, api.TString, charWord('a'))
	b := mustAlloc(t, h, api.TString, charWord('a'))
	proc := node(api.GProc, 0, "")
	expectShow(t, h, table, graphOf([]int{0, 1, 0, 2, 2}, text("a"), text("a"), integer("1")), b, a, b, fix(1), fix(1))
	expectShow(t, h, table, graphOf([]int{0, 1, 0}, proc, proc), primWord(1), primWord(2), primWord(1))
	p := mustAlloc(t, h, api.TVector, word.Unset, pointer(1000), specialWord(1), word.Void, primWord(5), a, primWord(5))
	expectShow(t, h, table, graphOf([]int{0, 2}, vector(1, 1, 1, 1, 2, 3, 2), void(), proc, text("a")), p, primWord(5))
	big := []api.Word{fix(1), fix(0), fix(1 << 28), fix(1)}
	x, y := mustAlloc(t, h, api.TBig, big...), mustAlloc(t, h, api.TBig, big...)
	expectShow(t, h, table, graphOf([]int{0, 0}, integer("-19599665578316398592")), x, y)
}

func TestShowPairs(t *testing.T) {
	expectObject(t, graphOf([]int{0}, pair(1, 1), integer("1")), api.TPair, fix(1), fix(1))
	expectObject(t, graphOf([]int{0}, pair(1, 2), letter('x'), null()), api.TPair, charWord('x'), word.Null)
	expectVoid(t, api.TPair)
	expectVoid(t, api.TPair, fix(1))
	expectVoid(t, api.TPair, fix(1), fix(2), fix(3))
}

func TestShowVectors(t *testing.T) {
	expectObject(t, graphOf([]int{0}, vector()), api.TVector)
	expectObject(t, graphOf([]int{0}, vector(1), null()), api.TVector, word.Null)
	expectObject(t, graphOf([]int{0}, vector(1, 2, 1, 3), null(), integer("7"), void()), api.TVector, word.Null, fix(7), word.Null, word.Unset)
	expectObject(t, graphOf([]int{0}, vector(slices.Repeat([]int{1}, api.MaxItems)...), null()), api.TVector, slices.Repeat([]api.Word{word.Null}, api.MaxItems)...)
	expectVoid(t, api.TVector, slices.Repeat([]api.Word{word.Null}, api.MaxItems+1)...)
}

func TestShowTexts(t *testing.T) {
	expectObject(t, one(text("")), api.TString)
	expectObject(t, one(text("a\x00é€𝄞\U0010ffff\ufffd")), api.TString, charWord('a'), charWord(0), charWord(0xe9), charWord(0x20ac), charWord(0x1d11e), charWord(0x10ffff), charWord(0xfffd))
	expectObject(t, one(text(strings.Repeat("𝄞", api.MaxItems))), api.TString, slices.Repeat([]api.Word{charWord(0x1d11e)}, api.MaxItems)...)
	expectVoid(t, api.TString, slices.Repeat([]api.Word{charWord('a')}, api.MaxItems+1)...)
	for _, w := range append(silent(), word.Null, fix('a'), pointer(0), nameWord('a'), primWord('a'), word.True, word.Eof) {
		expectVoid(t, api.TString, w)
		expectVoid(t, api.TString, charWord('a'), charWord('b'), w)
		expectVoid(t, api.TString, w, charWord('a'))
	}
}

func TestShowBytes(t *testing.T) {
	expectObject(t, one(bytes("")), api.TBytes)
	expectObject(t, one(bytes("\x00\x01\x7f\x80\xff")), api.TBytes, fix(0), fix(1), fix(127), fix(128), fix(255))
	expectObject(t, one(bytes(strings.Repeat("\xff", api.MaxItems))), api.TBytes, slices.Repeat([]api.Word{fix(255)}, api.MaxItems)...)
	expectVoid(t, api.TBytes, slices.Repeat([]api.Word{fix(0)}, api.MaxItems+1)...)
	for _, w := range append(silent(), word.Null, charWord(1), pointer(0), fix(256), fix(257), fix(-1), fix(-256), fix(1<<32), fix(1<<60-1), fix(-1<<60)) {
		expectVoid(t, api.TBytes, w)
		expectVoid(t, api.TBytes, fix(1), w)
		expectVoid(t, api.TBytes, w, fix(1))
	}
}

func TestShowIntegers(t *testing.T) {
	_, beyond := bothBounds()
	for _, s := range beyond {
		expectObject(t, one(integer(s)), api.TBig, bigFields(s)...)
	}
	max := slices.Repeat([]api.Word{fix(math.MaxUint32)}, api.MaxLimbs)
	for _, fields := range [][]api.Word{
		{}, {fix(0)}, {fix(1)}, // no integer, nought, negative nought
		{fix(0), fix(0)}, {fix(1), fix(0)}, {fix(0), fix(0), fix(0), fix(0)}, // nought with limbs
		{fix(0), fix(1)}, {fix(1), fix(1)}, {fix(0), fix(math.MaxUint32)}, {fix(0), fix(0), fix(1)}, // in Fix's bounds
		{fix(0), fix(math.MaxUint32), fix(1<<28 - 1)}, {fix(1), fix(0), fix(1 << 28)}, {fix(1), fix(math.MaxUint32), fix(1<<28 - 1)}, // the bounds themselves
		{fix(0), fix(0), fix(1 << 28), fix(0)}, {fix(0), fix(1), fix(1), fix(1), fix(0)}, // a nought at the end
		{fix(2), fix(0), fix(0), fix(1)}, {fix(-1), fix(0), fix(0), fix(1)}, {word.False, fix(0), fix(0), fix(1)}, {word.Null, fix(0), fix(0), fix(1)}, {charWord(0), fix(0), fix(0), fix(1)}, // no sign
		{fix(0), fix(0), fix(0), fix(1<<32 + 1)}, {fix(0), fix(1 << 32), fix(0), fix(1)}, {fix(0), fix(-1), fix(0), fix(1)}, {fix(0), word.Null, fix(0), fix(1)}, {fix(0), fix(0), charWord(5), fix(1)}, {fix(0), fix(0), fix(0), pointer(0)}, // no limb
		append([]api.Word{fix(0)}, append(max, fix(1))...), append([]api.Word{fix(1)}, append(max, max...)...), append([]api.Word{fix(0)}, append(max, fix(0))...), // too many
	} {
		expectVoid(t, api.TBig, fields...)
	}
	expectObject(t, one(integer("1152921504606846976")), api.TBig, fix(0), fix(0), fix(1<<28))
	expectObject(t, one(integer("-1152921504606846977")), api.TBig, fix(1), fix(1), fix(1<<28))
}

func TestShowConditions(t *testing.T) {
	for num := range 3 {
		expectObject(t, graphOf([]int{0}, node(api.GCond, num, "", 1, 2), letter('m'), null()), api.TCond, fix(num), charWord('m'), word.Null)
		expectVoid(t, api.TCond, fix(num), word.Null)
		expectVoid(t, api.TCond, fix(num))
		expectVoid(t, api.TCond, fix(num), word.Null, word.Null, word.Null)
	}
	expectVoid(t, api.TCond)
	for _, w := range append(silent(), fix(3), fix(-1), fix(1<<32), fix(1<<60-1), word.Null, word.False, word.True, charWord(1), nameWord(0), pointer(0)) {
		expectVoid(t, api.TCond, w, word.Null, word.Null)
	}
}

// Types of which no field counts, whatever there is.
func TestShowWithoutFields(t *testing.T) {
	proc := node(api.GProc, 0, "")
	for kind, n := range map[int]api.Node{
		api.TEnv: node(api.GEnv, 0, ""), api.TPort: node(api.GPort, 0, ""), api.TRecType: node(api.GRecord, 0, "record-type"), api.TTable: node(api.GRecord, 0, "table"),
		api.TClosure: proc, api.TCont: proc, api.TParam: proc, api.TRecProc: proc,
		api.TCode: void(), api.TFrame: void(), api.TRib: void(), api.TCell: void(), api.TMacro: void(), api.TWind: void(),
	} {
		for _, fields := range [][]api.Word{nil, {word.Null}, {fix(0), fix(1)}, {fix(1), pointer(0), nameWord(0)}, slices.Repeat([]api.Word{charWord('x')}, 1500)} {
			expectObject(t, one(n), kind, fields...)
		}
	}
}

func TestShowValues(t *testing.T) {
	expectObject(t, graphOf([]int{0}, node(api.GValues, 0, "")), api.TValues)
	expectObject(t, graphOf([]int{0}, node(api.GValues, 0, "", 1), null()), api.TValues, word.Null)
	expectObject(t, graphOf([]int{0}, node(api.GValues, 0, "", 1, 2, 1), null(), integer("2")), api.TValues, word.Null, fix(2), word.Null)
	expectObject(t, graphOf([]int{0}, node(api.GValues, 0, "", slices.Repeat([]int{1}, 1500)...), null()), api.TValues, slices.Repeat([]api.Word{word.Null}, 1500)...)
}

func TestShowRecords(t *testing.T) {
	h, table := mustNew(t, 5000), store.NewNames()
	for _, s := range []string{"point", "", "\xff", "λ"} {
		table.Id(s)
	}
	point := mustAlloc(t, h, api.TRecType, nameWord(0))
	expectShow(t, h, table, graphOf([]int{0}, node(api.GRecord, 0, "point")), mustAlloc(t, h, api.TRecord, point))
	expectShow(t, h, table, graphOf([]int{0}, node(api.GRecord, 0, "point", 1, 2), integer("3"), null()), mustAlloc(t, h, api.TRecord, point, fix(3), word.Null))
	long := mustAlloc(t, h, api.TRecType, nameWord(3), word.Null, fix(1))
	expectShow(t, h, table, graphOf([]int{0}, node(api.GRecord, 0, "λ", 1, 2), node(api.GRecord, 0, "record-type"), node(api.GRecord, 0, "point")), mustAlloc(t, h, api.TRecord, long, long, mustAlloc(t, h, api.TRecord, point)))
	many := append([]api.Word{point}, slices.Repeat([]api.Word{word.Null}, 1500)...)
	expectShow(t, h, table, graphOf([]int{0}, node(api.GRecord, 0, "point", slices.Repeat([]int{1}, 1500)...), null()), mustAlloc(t, h, api.TRecord, many...))
	empty := mustAlloc(t, h, api.TRecType, nameWord(1)) // a record's text may be empty, a name may not
	expectShow(t, h, table, graphOf([]int{0}, node(api.GRecord, 0, "", 1), integer("4")), mustAlloc(t, h, api.TRecord, empty, fix(4)))
}

// A record whose first field is no type that has a name.
func TestShowRecordsWithoutName(t *testing.T) {
	h, table := mustNew(t, 500), store.NewNames()
	table.Id("point")
	table.Id("\xff")
	expectShow(t, h, table, one(void()), mustAlloc(t, h, api.TRecord))
	for _, w := range append(silent(), word.Null, fix(0), nameWord(0), nameWord(1), pointer(1), pointer(400), pointer(500), primWord(0)) {
		expectShow(t, h, table, one(void()), mustAlloc(t, h, api.TRecord, w, fix(1)))
	}
	for _, fields := range [][]api.Word{nil, {word.Null, nameWord(0)}, {fix(0)}, {nameWord(1)}, {nameWord(2)}, {nameWord(1 << 30)}, {pointer(0)}, {charWord('p')}, {primWord(0)}} {
		kind := mustAlloc(t, h, api.TRecType, fields...)
		expectShow(t, h, table, one(void()), mustAlloc(t, h, api.TRecord, kind, fix(1)))
	}
	for kind := 1; kind <= 22; kind++ {
		want := graphOf([]int{0}, node(api.GRecord, 0, "point", 1), integer("1"))
		if kind != api.TRecType {
			want = one(void())
		}
		p := mustAlloc(t, h, kind, nameWord(0), nameWord(0))
		expectShow(t, h, table, want, mustAlloc(t, h, api.TRecord, p, fix(1)))
	}
	self := mustAlloc(t, h, api.TRecord, word.Null, fix(1))
	h.Set(self, api.TRecord, 0, self)
	expectShow(t, h, table, one(void()), self)
}

// Words that say no place that is there, as roots and as fields.
func TestShowPlacesThatAreNotThere(t *testing.T) {
	h, table := mustNew(t, 20), store.NewNames()
	mustAlloc(t, h, api.TPair, word.Null, word.Null)
	v := mustAlloc(t, h, api.TVector, word.Null, word.Null)
	mustAlloc(t, h, api.TString, charWord('x'))
	h.Cut(6) // the text is still in the row, but not used
	for _, at := range []int{1, 2, 4, 5, 6, 7, 8, 19, 20, 21, 1 << 22, 1 << 32, 1<<32 + 3, 1 << 40, 1<<40 + 1} {
		expectShow(t, h, table, one(void()), pointer(at))
		h.Set(v, api.TVector, 1, pointer(at))
		expectShow(t, h, table, graphOf([]int{0}, vector(1, 2), null(), void()), v)
	}
}

// What goes round and what is shared is told so.
func TestShowRounds(t *testing.T) {
	h, table := mustNew(t, 40), store.NewNames()
	p := mustAlloc(t, h, api.TPair, fix(1), pointer(0))
	expectShow(t, h, table, graphOf([]int{0}, pair(1, 0), integer("1")), p)
	v := mustAlloc(t, h, api.TValues, pointer(3), p, pointer(7))
	c := mustAlloc(t, h, api.TCond, fix(2), v, p)
	expectShow(t, h, table, graphOf([]int{0, 3, 1}, node(api.GValues, 0, "", 0, 1, 3), pair(2, 1), integer("1"), node(api.GCond, 2, "", 0, 1)), v, c, p)
	expectShow(t, h, table, graphOf([]int{0, 1}, node(api.GCond, 2, "", 1, 2), node(api.GValues, 0, "", 1, 2, 0), pair(3, 2), integer("1")), c, v)
	s := mustAlloc(t, h, api.TString)
	w := mustAlloc(t, h, api.TVector, s, mustAlloc(t, h, api.TString), s)
	expectShow(t, h, table, graphOf([]int{0}, vector(1, 2, 1), text(""), text("")), w)
}

// What is handed out is new memory (R4).
func TestShownIsNewMemory(t *testing.T) {
	h, table := mustNew(t, 20), store.NewNames()
	roots := mustPut(t, h, table, graphOf([]int{0, 0}, vector(1, 2, 0), symbol("a"), text("b")))
	first := store.Show(h, table, roots...)
	want := copied(first)
	first.Roots[0], first.Nodes[0].Kids[0], first.Nodes[1].Text = 7, 7, "changed"
	expectGraph(t, "again", store.Show(h, table, roots...), want)
	second := store.Show(h, table, roots...)
	h.Set(roots[0], 0, 0, fix(9))
	table.Id("c")
	h.Cut(0)
	expectGraph(t, "kept", second, want)
}
