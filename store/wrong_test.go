package store_test

import (
	"math/rand"
	"slices"
	"strings"
	"testing"

	"athanor/api"
	"athanor/heap"
	"athanor/store"
	"athanor/word"
)

// Promise 9.2: what is refused; R2: nothing is changed then; nil things, and such as were not made.

// badGraphs are graphs that are not good, each for one reason alone.
func badGraphs() []api.Graph {
	bad := []api.Node{
		{}, node(-1, 0, ""), node(18, 0, ""), node(99, 0, ""), node(api.GNull, 1, ""), node(api.GNull, 0, "x"), node(api.GNull, 0, "", 0), node(api.GEof, 0, "", 1), node(api.GVoid, 2, ""),
		node(api.GBool, 2, ""), node(api.GBool, -1, ""), integer(""), integer("007"), integer("-0"), integer("+1"), integer("1a"), integer("1" + strings.Repeat("0", 400)),
		letter(-1), letter(0xd800), letter(0xdfff), letter(0x110000), letter(1<<32 + 'a'),
		text("\xff"), text("a\xc3"), text("\xed\xa0\x80"), text(strings.Repeat("é", api.MaxItems+1)), symbol(""), symbol("\xff"),
		bytes(strings.Repeat("x", api.MaxItems+1)), node(api.GBytes, 1, ""), pair(0, 3), pair(-1, 0), node(api.GPair, 0, "", 0), node(api.GPair, 0, "", 0, 0, 0), node(api.GPair, 0, ""),
		vector(0, 1, 3), vector(slices.Repeat([]int{0}, api.MaxItems+1)...), node(api.GProc, 0, "\xff"),
	}
	var out []api.Graph
	for _, n := range bad {
		for place := range 3 {
			nodes := []api.Node{symbol("new"), text("a"), integer("1")}
			nodes[place] = n
			out = append(out, graphOf([]int{0, 1, 2}, nodes...), graphOf(nil, nodes...), graphOf([]int{(place + 1) % 3}, nodes...))
		}
	}
	for _, root := range []int{-1, 1, 2, -1 << 63, 1<<63 - 1} {
		out = append(out, graphOf([]int{root}, symbol("new")), graphOf([]int{0, root}, symbol("new")))
	}
	return append(out, graphOf([]int{0}), graphOf([]int{-1}))
}

// strange are graphs that are good, but have a node that is laid nowhere: as a root, within others, at the end of a list.
func strange() []api.Graph {
	var out []api.Graph
	for _, n := range []api.Node{
		node(api.GProc, 0, ""), node(api.GProc, 0, "car"), node(api.GCond, 0, "", 1, 1), node(api.GCond, 2, "", 0, 1), node(api.GEnv, 0, ""),
		node(api.GRecord, 0, "point", 1), node(api.GRecord, 0, ""), node(api.GValues, 0, ""), node(api.GValues, 0, "", 0, 1), node(api.GPort, 0, ""),
	} {
		out = append(out, graphOf([]int{0}, n, symbol("new")), graphOf([]int{1, 0}, n, symbol("new")),
			graphOf([]int{2}, n, symbol("new"), pair(1, 0)), graphOf([]int{1, 3}, n, symbol("new"), vector(1, 0), pair(1, 2)))
	}
	return out
}

// expectRefused holds that a graph is not laid, and that nothing is changed.
func expectRefused(t *testing.T, h *heap.Heap, table *store.Names, g api.Graph, want api.Errno) {
	t.Helper()
	before, kept := stateOf(h, table), copied(g)
	if roots, err := store.Put(h, table, g); len(roots) != 0 || err != want {
		t.Fatalf("Put: %#x, %d, want %d, of\n%s", roots, err, want, tell(g))
	}
	expectState(t, h, table, before)
	expectGraph(t, "handed in", g, kept)
}

func TestGraphsThatAreNotLaid(t *testing.T) {
	h, table := mustNew(t, 100), store.NewNames()
	full := mustNew(t, 1)
	for i, g := range slices.Concat(badGraphs(), strange()) {
		if need := store.Need(g); need != -1 {
			t.Errorf("%d: Need is %d of\n%s", i, need, tell(g))
		}
		expectRefused(t, h, table, g, api.ErrGraph)
		expectRefused(t, full, table, g, api.ErrGraph) // ErrGraph is named ahead of ErrFull
		expectRefused(t, nil, nil, g, api.ErrGraph)
	}
	if got := table.Id("first"); got != 0 {
		t.Errorf("Id: %d", got)
	}
}

// Just the kinds that the table lists are laid.
func TestKindsThatAreLaid(t *testing.T) {
	laid := map[int]api.Node{api.GBool: node(api.GBool, 1, ""), api.GInt: integer("7"), api.GSym: symbol("s"), api.GPair: pair(0, 0), api.GCond: node(api.GCond, 0, "", 0, 0)}
	for kind := 1; kind <= 17; kind++ {
		n, ok := laid[kind]
		if !ok {
			n = node(kind, 0, "")
		}
		need := store.Need(one(n))
		if refused := need == -1; refused != (kind >= api.GProc) {
			t.Errorf("kind %d: Need is %d", kind, need)
		}
	}
}

// No room: one word less than is needed is ErrFull, and no name gets a number; just as many are enough.
func TestNoRoom(t *testing.T) {
	r := rand.New(rand.NewSource(94))
	full := 0
	for range 2000 {
		g := sampleGraph(r, 10)
		need := store.Need(g)
		ahead := r.Intn(4)
		for room := range need {
			if room > 3 && room < need-3 {
				continue
			}
			h, table := mustNew(t, 1+ahead+room), store.NewNames()
			h.Fill(api.TVector, ahead, word.Void)
			table.Id("old")
			expectRefused(t, h, table, g, api.ErrFull)
			if got := table.Id("next"); got != 1 {
				t.Fatalf("the next name has the number %d", got)
			}
			full++
		}
		h, table := mustNew(t, 1+ahead+need), store.NewNames()
		h.Fill(api.TVector, ahead, word.Void)
		mustPut(t, h, table, g)
		if h.Room() != 0 {
			t.Fatalf("%d words are left", h.Room())
		}
	}
	if full < 1000 {
		t.Errorf("full only %d times", full)
	}
}

// A graph that needs no words is laid where there are none.
func TestNoWordsNeeded(t *testing.T) {
	h := mustNew(t, 1)
	mustAlloc(t, h, api.TCell)
	var none *heap.Heap
	for name, h := range map[string]*heap.Heap{"full": h, "nil": none, "not made": {}} {
		table := store.NewNames()
		g := graphOf([]int{0, 1, 2, 3, 0}, integer("-5"), symbol("a"), letter('x'), node(api.GEof, 0, ""))
		roots, err := store.Put(h, table, g)
		if want := []api.Word{fix(-5), nameWord(0), charWord('x'), word.Eof, fix(-5)}; !slices.Equal(roots, want) || err != api.OK {
			t.Errorf("%s: %#x, %d, want %#x", name, roots, err, want)
		}
		if roots, err := store.Put(h, table, api.Graph{}); len(roots) != 0 || err != api.OK {
			t.Errorf("%s: %#x, %d of no graph", name, roots, err)
		}
		expectRefused(t, h, table, one(text("")), api.ErrFull)
		expectRefused(t, h, table, graphOf([]int{0, 1}, symbol("b"), vector()), api.ErrFull)
	}
}

// A heap without words has no objects: all words are told but places.
func TestShowWithoutHeap(t *testing.T) {
	table := store.NewNames()
	table.Id("a")
	var none *heap.Heap
	for name, h := range map[string]*heap.Heap{"nil": none, "not made": {}} {
		got := store.Show(h, table, nameWord(0), pointer(0), fix(3), pointer(1<<40), word.Null)
		expectGraph(t, name, got, graphOf([]int{0, 1, 2, 1, 3}, symbol("a"), void(), integer("3"), null()))
		expectGraph(t, name, store.Show(h, table), api.Graph{})
	}
}

// Nil names, and such as NewNames did not make: no names, and none ever.
func TestNamesThatWereNotMade(t *testing.T) {
	var none *store.Names
	for what, table := range map[string]*store.Names{"nil": none, "not made": {}, "new": new(store.Names)} {
		for _, s := range append(wild(), "a", "") {
			if got := table.Id(s); got != -1 {
				t.Errorf("%s: Id(%.20q) is %d", what, s, got)
			}
			expectNoName(t, table, 0)
		}
		h := mustNew(t, 20)
		g := graphOf([]int{0, 1}, vector(1, 2, 3), symbol("a"), symbol("b"), integer("1"))
		roots := mustPut(t, h, table, g)
		want := []api.Word{head(api.TVector, 3), word.Unset, word.Unset, fix(1)}
		if got := rowOf(h); !slices.Equal(got, want) || !slices.Equal(roots, []api.Word{pointer(0), word.Unset}) {
			t.Errorf("%s: %#x, roots %#x", what, got, roots)
		}
		expectGraph(t, what, store.Show(h, table, append(roots, nameWord(0), nameWord(1))...), graphOf([]int{0, 1, 1, 1}, vector(1, 1, 2), void(), integer("1")))
		kind := mustAlloc(t, h, api.TRecType, nameWord(0))
		expectGraph(t, what, store.Show(h, table, mustAlloc(t, h, api.TRecord, kind, fix(1))), one(void()))
	}
}
