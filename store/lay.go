package store

import (
	"unicode/utf8"

	"athanor/api"
	"athanor/graph"
	"athanor/heap"
	"athanor/word"
)

// layable is a graph in the order in which its objects lie; false, if it is not good, or has a node that is laid nowhere.
func layable(g api.Graph) (api.Graph, bool) {
	if !graph.Good(g) {
		return api.Graph{}, false
	}
	c := graph.Canon(g)
	for _, n := range c.Nodes {
		if n.Kind > api.GBytes && n.Kind != api.GEof && n.Kind != api.GVoid {
			return api.Graph{}, false
		}
	}
	return c, true
}

// wordsOf tells how many words the objects of nodes have, with their heads.
func wordsOf(nodes []api.Node) int {
	sum := 0
	for _, n := range nodes {
		sum += length(n)
	}
	return sum
}

// length tells how many words a node's object has, with its head; 0, if it needs none.
func length(n api.Node) int {
	switch n.Kind {
	case api.GInt:
		return lengthOfInt(n.Text)
	case api.GString:
		return 1 + utf8.RuneCountInString(n.Text)
	case api.GBytes:
		return 1 + len(n.Text)
	case api.GPair, api.GVector:
		return 1 + len(n.Kids)
	}
	return 0
}

// layAll lays nodes in their order, where there is room for them, and tells their words. Kids are put in behind that: one may lie behind who has it.
func layAll(h *heap.Heap, t *Names, nodes []api.Node) []api.Word {
	words := make([]api.Word, len(nodes))
	for i, n := range nodes {
		words[i] = lay(h, t, n)
	}
	for i, n := range nodes {
		for field, kid := range n.Kids {
			h.Set(words[i], 0, field, words[kid])
		}
	}
	return words
}

// lay lays a node, its kids still missing, and tells its word.
func lay(h *heap.Heap, t *Names, n api.Node) api.Word {
	w := word.Null
	switch n.Kind {
	case api.GBool:
		w = word.Bool(n.Num == 1)
	case api.GEof:
		w = word.Eof
	case api.GVoid:
		w = word.Void
	case api.GInt:
		w = layInt(h, n.Text)
	case api.GChar:
		w, _ = word.Char(n.Num)
	case api.GSym:
		w = nameWord(t, n.Text)
	case api.GString:
		w, _ = h.Alloc(api.TString, letterWords(n.Text)...)
	case api.GBytes:
		w, _ = h.Alloc(api.TBytes, byteWords(n.Text)...)
	case api.GPair:
		w, _ = h.Fill(api.TPair, len(n.Kids), word.Null)
	case api.GVector:
		w, _ = h.Fill(api.TVector, len(n.Kids), word.Null)
	}
	return w
}

// nameWord is a name's word; Unset, if it has no number.
func nameWord(t *Names, text string) api.Word {
	if w, ok := word.Name(t.Id(text)); ok {
		return w
	}
	return word.Unset
}

func letterWords(text string) []api.Word {
	var out []api.Word
	for _, letter := range text {
		w, _ := word.Char(int(letter))
		out = append(out, w)
	}
	return out
}

func byteWords(text string) []api.Word {
	var out []api.Word
	for i := range len(text) {
		out = append(out, number(int64(text[i])))
	}
	return out
}
