package store_test

import (
	"math/rand"
	"slices"
	"strings"
	"testing"

	"athanor/api"
	"athanor/graph"
	"athanor/store"
	"athanor/word"
)

// Promise 9.2: Need and Put, of ordinary graphs.

// expectPut holds all that 9.2 says of a graph that can be laid, into a heap with something laid ahead, against words that are wanted: a function of the place from which on they lie.
func expectPut(t *testing.T, g api.Graph, want func(at int) (row, roots []api.Word)) {
	t.Helper()
	for _, ahead := range []int{0, 1, 7} {
		h, names := mustNew(t, 20000), store.NewNames()
		if ahead > 0 {
			h.Fill(api.TVector, ahead-1, word.Eof)
		}
		before := rowOf(h)
		row, roots := want(ahead)
		if need := store.Need(g); need != len(row) {
			t.Fatalf("Need: %d, want %d, of\n%s", need, len(row), tell(g))
		}
		if got := mustPut(t, h, names, g); !slices.Equal(got, roots) {
			t.Fatalf("Put: %#x, want %#x, of\n%s", got, roots, tell(g))
		}
		if got := rowOf(h); !slices.Equal(got, append(before, row...)) {
			t.Fatalf("the heap is %#x, want %#x, of\n%s", got[ahead:], row, tell(g))
		}
	}
}

// expectWord holds that a node is laid as a word alone.
func expectWord(t *testing.T, n api.Node, w api.Word) {
	t.Helper()
	expectPut(t, one(n), func(int) ([]api.Word, []api.Word) { return nil, []api.Word{w} })
}

// expectFields holds that a node without kids is laid as an object with those fields.
func expectFields(t *testing.T, n api.Node, kind int, fields ...api.Word) {
	t.Helper()
	expectPut(t, one(n), func(at int) ([]api.Word, []api.Word) {
		return append([]api.Word{head(kind, len(fields))}, fields...), []api.Word{pointer(at)}
	})
}

func TestPutWords(t *testing.T) {
	expectWord(t, null(), 2)
	expectWord(t, node(api.GBool, 0, ""), 10)
	expectWord(t, node(api.GBool, 1, ""), 18)
	expectWord(t, node(api.GEof, 0, ""), 26)
	expectWord(t, void(), 34)
	for _, n := range []int{0, 1, 'a', 0x7f, 0x80, 0xd7ff, 0xe000, 0xffff, 0x10000, 0x10ffff} {
		expectWord(t, letter(n), charWord(n))
	}
	for _, s := range []string{"a", "λ", "a b", "12", "(", "\x00"} {
		expectWord(t, symbol(s), nameWord(0))
	}
}

func TestPutIntegers(t *testing.T) {
	for s, n := range map[string]int{
		"0": 0, "1": 1, "-1": -1, "4294967296": 1 << 32, "-4294967297": -1<<32 - 1,
		"1152921504606846975": 1<<60 - 1, "-1152921504606846976": -1 << 60, "1152921504606846974": 1<<60 - 2, "-1152921504606846975": 1 - 1<<60,
	} {
		expectWord(t, integer(s), fix(n))
	}
	for s, fields := range map[string][]int{
		"1152921504606846976":            {0, 0, 1 << 28},
		"-1152921504606846977":           {1, 1, 1 << 28},
		"12345678901234567890":           {0, 0xeb1f0ad2, 0xab54a98c},
		"-12345678901234567890":          {1, 0xeb1f0ad2, 0xab54a98c},
		"9223372036854775807":            {0, 1<<32 - 1, 1<<31 - 1},
		"-9223372036854775808":           {1, 0, 1 << 31},
		"18446744073709551615":           {0, 1<<32 - 1, 1<<32 - 1},
		"18446744073709551616":           {0, 0, 0, 1},
		"-79228162514264337593543950336": {1, 0, 0, 0, 1},
	} {
		var words []api.Word
		for _, n := range fields {
			words = append(words, fix(n))
		}
		expectFields(t, integer(s), api.TBig, words...)
	}
}

// Integers at and beyond the bounds, up to MaxLimbs limbs, of both signs.
func TestPutIntegersOfManyLimbs(t *testing.T) {
	within, beyond := bothBounds()
	for _, s := range within {
		if need := store.Need(one(integer(s))); need != 0 {
			t.Errorf("Need of %s: %d", s, need)
		}
	}
	longest := 0
	for _, s := range beyond {
		fields := bigFields(s)
		expectFields(t, integer(s), api.TBig, fields...)
		longest = max(longest, len(fields))
	}
	if longest != 1+api.MaxLimbs {
		t.Errorf("the longest one has %d fields", longest)
	}
}

func TestPutTexts(t *testing.T) {
	expectFields(t, text(""), api.TString)
	expectFields(t, text("a"), api.TString, charWord('a'))
	expectFields(t, text("aé€𝄞\x00\U0010ffff\ufffd"), api.TString, charWord('a'), charWord(0xe9), charWord(0x20ac), charWord(0x1d11e), charWord(0), charWord(0x10ffff), charWord(0xfffd))
	expectFields(t, text("\u007f\u0080\u07ff\u0800\ud7ff\ue000\uffff\U00010000"), api.TString,
		charWord(0x7f), charWord(0x80), charWord(0x7ff), charWord(0x800), charWord(0xd7ff), charWord(0xe000), charWord(0xffff), charWord(0x10000))
	for _, c := range []rune{'x', 0xe9, 0x20ac, 0x1d11e} {
		expectFields(t, text(strings.Repeat(string(c), api.MaxItems)), api.TString, slices.Repeat([]api.Word{charWord(int(c))}, api.MaxItems)...)
	}
}

func TestPutBytes(t *testing.T) {
	expectFields(t, bytes(""), api.TBytes)
	expectFields(t, bytes("\x00"), api.TBytes, fix(0))
	expectFields(t, bytes("é"), api.TBytes, fix(0xc3), fix(0xa9))
	var all []byte
	var words []api.Word
	for n := range 256 {
		all, words = append(all, byte(n)), append(words, fix(n))
	}
	expectFields(t, bytes(string(all)), api.TBytes, words...)
	expectFields(t, bytes(strings.Repeat(string(all), 4)), api.TBytes, slices.Repeat(words, 4)...)
}

func TestPutPairsAndVectors(t *testing.T) {
	expectPut(t, graphOf([]int{0}, pair(1, 1), integer("1")), func(at int) ([]api.Word, []api.Word) { // the chapter's example
		return []api.Word{head(api.TPair, 2), fix(1), fix(1)}, []api.Word{pointer(at)}
	})
	expectFields(t, vector(), api.TVector)
	expectPut(t, graphOf([]int{1}, null(), vector(0)), func(at int) ([]api.Word, []api.Word) {
		return []api.Word{head(api.TVector, 1), word.Null}, []api.Word{pointer(at)}
	})
	expectPut(t, graphOf([]int{0}, pair(1, 2), text("x"), vector(3, 4, 1), symbol("s"), bytes("\x05")), func(at int) ([]api.Word, []api.Word) {
		return []api.Word{
			head(api.TPair, 2), pointer(at + 3), pointer(at + 5),
			head(api.TString, 1), charWord('x'),
			head(api.TVector, 3), nameWord(0), pointer(at + 9), pointer(at + 3),
			head(api.TBytes, 1), fix(5),
		}, []api.Word{pointer(at)}
	})
}

func TestPutWideVectors(t *testing.T) {
	nodes, kids := []api.Node{null()}, []int{}
	var row []api.Word
	for n := range api.MaxItems {
		nodes = append(nodes, text("y"))
		kids = append(kids, n+1)
		row = append(row, head(api.TString, 1), charWord('y'))
	}
	nodes[0] = vector(kids...)
	expectPut(t, graphOf([]int{0}, nodes...), func(at int) ([]api.Word, []api.Word) {
		first := []api.Word{head(api.TVector, api.MaxItems)}
		for n := range api.MaxItems {
			first = append(first, pointer(at+1+api.MaxItems+2*n))
		}
		return append(first, row...), []api.Word{pointer(at)}
	})
}

// What is shared lies there once; atoms need not be one node to be one word, but an integer beyond the bounds is one object, too.
func TestPutShared(t *testing.T) {
	expectPut(t, graphOf([]int{2, 0}, text("s"), text("s"), vector(0, 1, 0, 3, 4, 5), integer("5"), integer("5"), symbol("a")), func(at int) ([]api.Word, []api.Word) {
		return []api.Word{
			head(api.TVector, 6), pointer(at + 7), pointer(at + 9), pointer(at + 7), fix(5), fix(5), nameWord(0),
			head(api.TString, 1), charWord('s'), head(api.TString, 1), charWord('s'),
		}, []api.Word{pointer(at), pointer(at + 7)}
	})
	huge := integer("18446744073709551616")
	expectPut(t, graphOf([]int{3, 1}, pair(1, 2), huge, huge, pair(2, 1)), func(at int) ([]api.Word, []api.Word) {
		return []api.Word{
			head(api.TPair, 2), pointer(at + 3), pointer(at + 3),
			head(api.TBig, 4), fix(0), fix(0), fix(0), fix(1),
		}, []api.Word{pointer(at), pointer(at + 3)}
	})
}

func TestPutRounds(t *testing.T) {
	expectPut(t, graphOf([]int{0}, pair(1, 0), symbol("a")), func(at int) ([]api.Word, []api.Word) {
		return []api.Word{head(api.TPair, 2), nameWord(0), pointer(at)}, []api.Word{pointer(at)}
	})
	expectPut(t, graphOf([]int{0}, vector(0, 0)), func(at int) ([]api.Word, []api.Word) {
		return []api.Word{head(api.TVector, 2), pointer(at), pointer(at)}, []api.Word{pointer(at)}
	})
	expectPut(t, graphOf([]int{1}, pair(2, 1), pair(2, 0), null()), func(at int) ([]api.Word, []api.Word) {
		return []api.Word{head(api.TPair, 2), word.Null, pointer(at + 3), head(api.TPair, 2), word.Null, pointer(at)}, []api.Word{pointer(at)}
	})
}

// Nodes that are not met are not laid, whatever they are; no name of theirs gets a number.
func TestPutOfWhatIsMet(t *testing.T) {
	g := graphOf([]int{3}, symbol("unmet"), text("unmet"), node(api.GPort, 0, ""), pair(4, 4), symbol("met"), vector(0, 3), node(api.GValues, 0, "", 2), node(api.GProc, 0, "p"))
	expectPut(t, g, func(at int) ([]api.Word, []api.Word) {
		return []api.Word{head(api.TPair, 2), nameWord(0), nameWord(0)}, []api.Word{pointer(at)}
	})
	h, names := mustNew(t, 10), store.NewNames()
	mustPut(t, h, names, g)
	if got := textsOf(names); !slices.Equal(got, []string{"met"}) {
		t.Errorf("names %q", got)
	}
}

func TestPutRoots(t *testing.T) {
	nothing := func(int) ([]api.Word, []api.Word) { return nil, nil }
	expectPut(t, api.Graph{}, nothing)
	expectPut(t, graphOf([]int{}, text("a"), symbol("b")), nothing)
	expectPut(t, graphOf([]int{1, 1, 0, 1, 2}, text("a"), pair(0, 2), null()), func(at int) ([]api.Word, []api.Word) {
		p, s := pointer(at), pointer(at+3)
		return []api.Word{head(api.TPair, 2), s, word.Null, head(api.TString, 1), charWord('a')}, []api.Word{p, p, s, p, word.Null}
	})
}

// Objects lie in the order of Canon's nodes: each ahead of what hangs on it, all that hangs on one kid ahead of the next.
func TestOrderOfObjects(t *testing.T) {
	g := graphOf([]int{6, 0}, text("7"), text("3"), pair(1, 3), text("4"), pair(5, 0), text("6"), vector(2, 4, 7), text("8"))
	h := mustNew(t, 100)
	mustPut(t, h, store.NewNames(), g)
	var got []int
	for _, p := range h.Objects() {
		kind, _ := h.Kind(p)
		if kind == api.TString {
			w, _ := h.Get(p, api.TString, 0)
			kind = -int(w / 256)
		}
		got = append(got, kind)
	}
	if want := []int{api.TVector, api.TPair, -'3', -'4', api.TPair, -'6', -'7', -'8'}; !slices.Equal(got, want) {
		t.Errorf("%v lie there, want %v", got, want)
	}
}

// Names get their numbers in the order of Canon's nodes; those that have one keep it.
func TestOrderOfNames(t *testing.T) {
	h, names := mustNew(t, 100), store.NewNames()
	names.Id("old")
	g := graphOf([]int{4, 1}, symbol("c"), symbol("d"), symbol("old"), symbol("b"), vector(3, 5, 0), pair(2, 0))
	roots := mustPut(t, h, names, g)
	if got := textsOf(names); !slices.Equal(got, []string{"old", "b", "c", "d"}) || !slices.Equal(roots, []api.Word{pointer(0), nameWord(3)}) {
		t.Errorf("names %q, roots %#x", got, roots)
	}
	mustPut(t, h, names, g)
	if got := textsOf(names); len(got) != 4 {
		t.Errorf("names %q", got)
	}
}

// Many graphs, one behind the other in one heap, against the chapter written out a second time.
func TestPutAgainstTheModel(t *testing.T) {
	r := rand.New(rand.NewSource(92))
	for range 1500 {
		h, table := mustNew(t, 4000), store.NewNames()
		var texts names
		var want []api.Word
		for range 6 {
			g := sampleGraph(r, 12)
			row, roots := putOf(g, &texts, len(want))
			want = append(want, row...)
			if need := store.Need(g); need != len(row) {
				t.Fatalf("Need: %d, want %d, of\n%s", need, len(row), tell(g))
			}
			if got := mustPut(t, h, table, g); !slices.Equal(got, roots) {
				t.Fatalf("Put: %#x, want %#x, of\n%s", got, roots, tell(g))
			}
			if got := rowOf(h); !slices.Equal(got, want) {
				t.Fatalf("the heap is %#x, want %#x, of\n%s", got, want, tell(g))
			}
			if got := textsOf(table); !slices.Equal(got, texts) {
				t.Fatalf("the names are %q, want %q, of\n%s", got, texts, tell(g))
			}
		}
	}
}

// Need changes nothing and asks for no heap; a graph and its Canon need the same.
func TestNeedOfCanon(t *testing.T) {
	r := rand.New(rand.NewSource(93))
	for range 2000 {
		g := sampleGraph(r, 12)
		kept := copied(g)
		first, second, canon := store.Need(g), store.Need(g), store.Need(graph.Canon(g))
		if first != second || first != canon {
			t.Fatalf("Need: %d, %d, of Canon %d, of\n%s", first, second, canon, tell(g))
		}
		expectGraph(t, "handed in", g, kept)
	}
}

// What is handed in is not changed, what lies behind its end neither; what is handed out is new memory (R4).
func TestPutHandedInAndOut(t *testing.T) {
	kids := []int{1, 2, 7, 7}
	roots := []int{0, 2, 9, 9}
	nodes := []api.Node{node(api.GVector, 0, "", kids[:2]...), text("a"), symbol("b"), null(), null()}
	g := api.Graph{Nodes: nodes[:3], Roots: roots[:2]}
	kept := copied(api.Graph{Nodes: nodes, Roots: roots})
	h, names := mustNew(t, 50), store.NewNames()
	first := mustPut(t, h, names, g)
	if store.Need(g) != 5 {
		t.Errorf("Need: %d", store.Need(g))
	}
	expectGraph(t, "handed in", api.Graph{Nodes: nodes, Roots: roots}, kept)
	if !slices.Equal(kids, []int{1, 2, 7, 7}) {
		t.Errorf("kids %v", kids)
	}
	second := mustPut(t, h, names, g)
	before := stateOf(h, names)
	first[0], first[1] = word.Eof, word.Eof
	kids[0], roots[0], nodes[1].Text = 3, 3, "changed"
	expectState(t, h, names, before)
	if !slices.Equal(second, []api.Word{pointer(5), nameWord(0)}) {
		t.Errorf("%#x", second)
	}
}
