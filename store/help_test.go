package store_test

import (
	"math"
	"math/big"
	"math/rand"
	"slices"
	"strconv"
	"strings"
	"sync"
	"testing"

	"athanor/api"
	"athanor/heap"
	"athanor/store"
	"athanor/word"
)

func node(kind, num int, text string, kids ...int) api.Node {
	return api.Node{Kind: kind, Num: num, Text: text, Kids: kids}
}

func null() api.Node               { return node(api.GNull, 0, "") }
func void() api.Node               { return node(api.GVoid, 0, "") }
func integer(text string) api.Node { return node(api.GInt, 0, text) }
func symbol(text string) api.Node  { return node(api.GSym, 0, text) }
func text(text string) api.Node    { return node(api.GString, 0, text) }
func bytes(text string) api.Node   { return node(api.GBytes, 0, text) }
func letter(num int) api.Node      { return node(api.GChar, num, "") }
func pair(car, cdr int) api.Node   { return node(api.GPair, 0, "", car, cdr) }
func vector(kids ...int) api.Node  { return node(api.GVector, 0, "", kids...) }

func graphOf(roots []int, nodes ...api.Node) api.Graph {
	return api.Graph{Nodes: nodes, Roots: roots}
}

// one is a graph of one node without kids, its only root.
func one(n api.Node) api.Graph { return graphOf([]int{0}, n) }

// tell tells a graph in full, an empty list the same whether it is nil or not.
func tell(g api.Graph) string {
	var out []byte
	list := func(all []int) {
		for _, p := range all {
			out = strconv.AppendInt(append(out, ' '), int64(p), 10)
		}
		out = append(out, '\n')
	}
	for _, n := range g.Nodes {
		out = append(strconv.AppendInt(out, int64(n.Kind), 10), ' ')
		out = append(strconv.AppendInt(out, int64(n.Num), 10), ' ')
		out = strconv.AppendQuote(out, n.Text)
		list(n.Kids)
	}
	out = append(out, "roots"...)
	list(g.Roots)
	return string(out)
}

func expectGraph(t *testing.T, what string, got, want api.Graph) {
	t.Helper()
	if tell(got) != tell(want) {
		t.Fatalf("%s:\n%swant:\n%s", what, tell(got), tell(want))
	}
}

// copied shares nothing with what it copies.
func copied(g api.Graph) api.Graph {
	out := api.Graph{Nodes: slices.Clone(g.Nodes), Roots: slices.Clone(g.Roots)}
	for i := range out.Nodes {
		out.Nodes[i].Kids = slices.Clone(out.Nodes[i].Kids)
	}
	return out
}

// isAtom tells which kinds are atoms, after chapter 2.
func isAtom(kind int) bool {
	return slices.Contains([]int{api.GNull, api.GBool, api.GInt, api.GChar, api.GSym, api.GEof, api.GVoid}, kind)
}

// The words, by multiplication.

func fix(n int) api.Word         { return api.Word(n) * 8 }
func pointer(at int) api.Word    { return api.Word(at)*8 + 1 }
func charWord(n int) api.Word    { return api.Word(n)*256 + 6*8 + 2 }
func nameWord(n int) api.Word    { return api.Word(n)*256 + 7*8 + 2 }
func primWord(n int) api.Word    { return api.Word(n)*256 + 8*8 + 2 }
func specialWord(n int) api.Word { return api.Word(n)*256 + 9*8 + 2 }

func head(kind, size int) api.Word { return api.Word(size)*2048 + api.Word(kind)*8 + 7 }

// silent are words that say nothing, or what has no node of its own, and no places.
func silent() []api.Word {
	return []api.Word{
		word.Void, word.Unset, specialWord(0), specialWord(api.SpRules), specialWord(1 << 30),
		3, 4, 5, 6, 7, 3*8 + 3, 3*8 + 4, 3*8 + 5, 3*8 + 6, 7 + 5*2048, math.MaxUint64,
		charWord(0xd800), charWord(0xdfff), charWord(0x110000), nameWord(1<<30 + 1), primWord(1<<30 + 1), word.Null + 256, 10*8 + 2,
		pointer(1<<40 + 1), 1<<63 | 1, math.MaxUint64 - 6,
	}
}

// bothBounds are -2^60 and 2^60 - 1, those beyond them, and such as have some limbs more, of both signs.
func bothBounds() (within, beyond []string) {
	at := new(big.Int).Lsh(big.NewInt(1), 60)
	least := new(big.Int).Neg(at)
	most := new(big.Int).Sub(at, big.NewInt(1))
	within = []string{"0", "1", "-1", "4294967295", "4294967296", "-4294967296", least.String(), most.String(), new(big.Int).Add(least, big.NewInt(1)).String()}
	beyond = []string{at.String(), new(big.Int).Sub(least, big.NewInt(1)).String()}
	for _, bits := range []uint{61, 62, 63, 64, 65, 95, 96, 97, 128, 1000, 1279, 1280} {
		for _, less := range []int64{0, 1} {
			x := new(big.Int).Lsh(big.NewInt(1), bits)
			x.Sub(x, big.NewInt(less))
			if x.BitLen() <= 32*api.MaxLimbs {
				beyond = append(beyond, x.String(), "-"+x.String())
			}
		}
	}
	return within, beyond
}

// bounds are they, made once.
var bounds = sync.OnceValues(bothBounds)

// bigFields are the fields of an integer's object, by division; none, if it is in Fix's bounds.
func bigFields(digits string) []api.Word {
	x, _ := new(big.Int).SetString(digits, 10)
	at := new(big.Int).Lsh(big.NewInt(1), 60)
	if new(big.Int).Neg(at).Cmp(x) <= 0 && x.Cmp(at) < 0 {
		return nil
	}
	out := []api.Word{fix(0)}
	if x.Sign() < 0 {
		out[0] = fix(1)
		x.Neg(x)
	}
	for x.Sign() > 0 {
		limb := new(big.Int)
		x.DivMod(x, big.NewInt(1<<32), limb)
		out = append(out, fix(int(limb.Int64())))
	}
	return out
}

func mustNew(t *testing.T, n int) *heap.Heap {
	t.Helper()
	h, err := heap.New(n)
	if h == nil || err != api.OK {
		t.Fatalf("New(%d): %v, %d", n, h, err)
	}
	return h
}

func mustAlloc(t *testing.T, h *heap.Heap, kind int, fields ...api.Word) api.Word {
	t.Helper()
	p, err := h.Alloc(kind, fields...)
	if err != api.OK {
		t.Fatalf("Alloc(%d, %d fields): %d", kind, len(fields), err)
	}
	return p
}

func mustPut(t *testing.T, h *heap.Heap, names *store.Names, g api.Graph) []api.Word {
	t.Helper()
	roots, err := store.Put(h, names, g)
	if err != api.OK {
		t.Fatalf("Put: %d of\n%s", err, tell(g))
	}
	return roots
}

// rowOf is all words of a heap that are used.
func rowOf(h *heap.Heap) []api.Word {
	var out []api.Word
	for i := range h.Used() {
		out = append(out, h.Word(i))
	}
	return out
}

// textsOf are the names that are in a table.
func textsOf(names *store.Names) []string {
	var out []string
	for {
		s, ok := names.Text(len(out))
		if !ok {
			return out
		}
		out = append(out, s)
	}
}

// state is all that can be told of a heap and of names.
type state struct {
	room  int
	row   []api.Word
	texts []string
}

func stateOf(h *heap.Heap, names *store.Names) state {
	return state{h.Room(), rowOf(h), textsOf(names)}
}

// expectState holds that nothing has changed.
func expectState(t *testing.T, h *heap.Heap, names *store.Names, want state) {
	t.Helper()
	if got := stateOf(h, names); got.room != want.room || !slices.Equal(got.row, want.row) || !slices.Equal(got.texts, want.texts) {
		t.Fatalf("it was %v, and is %v", want, got)
	}
}

// sampleDatum is a good node of some kind that is laid, in a graph of so many nodes. There are few to choose from, so that many are the same.
func sampleDatum(r *rand.Rand, nodes int) api.Node {
	within, beyond := bounds()
	kids := func(n int) []int {
		var out []int
		for range n {
			out = append(out, r.Intn(nodes))
		}
		return out
	}
	switch kind := 1 + r.Intn(api.GVoid); kind {
	case api.GBool:
		return node(kind, r.Intn(2), "")
	case api.GInt:
		if r.Intn(2) == 0 {
			return integer(within[r.Intn(len(within))])
		}
		return integer(beyond[r.Intn(len(beyond))])
	case api.GChar:
		return letter([]int{0, 'a', 0xd7ff, 0xe000, 0xfffd, 0x10ffff}[r.Intn(6)])
	case api.GString:
		return text(strings.Repeat([]string{"a", "é", "€", "𝄞", "\x00b"}[r.Intn(5)], r.Intn(4)))
	case api.GSym:
		return symbol([]string{"a", "b", "λ", "list->string", "a b"}[r.Intn(5)])
	case api.GBytes:
		return bytes(strings.Repeat([]string{"\x00", "a\xff", "\x80"}[r.Intn(3)], r.Intn(4)))
	case api.GPair:
		return node(kind, 0, "", kids(2)...)
	case api.GVector:
		return node(kind, 0, "", kids(r.Intn(4))...)
	default:
		return node(kind, 0, "")
	}
}

// sampleGraph is a good graph of at most so many nodes that can be laid, with some roots or none.
func sampleGraph(r *rand.Rand, atMost int) api.Graph {
	n := r.Intn(atMost + 1)
	var g api.Graph
	for range n {
		if r.Intn(3) == 0 {
			g.Nodes = append(g.Nodes, pair(r.Intn(n), r.Intn(n)))
			continue
		}
		g.Nodes = append(g.Nodes, sampleDatum(r, n))
	}
	if n > 0 {
		for range r.Intn(4) {
			g.Roots = append(g.Roots, r.Intn(n))
		}
	}
	return g
}
