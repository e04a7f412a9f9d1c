package graph_test

import (
	"math/rand"
	"slices"
	"strconv"
	"testing"

	"athanor/api"
	"athanor/graph"
)

func node(kind, num int, text string, kids ...int) api.Node {
	return api.Node{Kind: kind, Num: num, Text: text, Kids: kids}
}

func null() api.Node               { return node(api.GNull, 0, "") }
func integer(text string) api.Node { return node(api.GInt, 0, text) }
func symbol(text string) api.Node  { return node(api.GSym, 0, text) }
func text(text string) api.Node    { return node(api.GString, 0, text) }
func pair(car, cdr int) api.Node   { return node(api.GPair, 0, "", car, cdr) }
func vector(kids ...int) api.Node  { return node(api.GVector, 0, "", kids...) }

func graphOf(roots []int, nodes ...api.Node) api.Graph {
	return api.Graph{Nodes: nodes, Roots: roots}
}

// show tells a graph in full, an empty list the same whether it is nil or not.
func show(g api.Graph) string {
	var out []byte
	list := func(all []int) {
		for _, p := range all {
			out = strconv.AppendInt(append(out, ' '), int64(p), 10)
		}
		out = append(out, '\n')
	}
	for _, n := range g.Nodes {
		out = append(strconv.AppendInt(out, int64(n.Kind), 10), ' ')
		out = append(strconv.AppendInt(out, int64(n.Num), 10), ' ')
		out = strconv.AppendQuote(out, n.Text)
		list(n.Kids)
	}
	out = append(out, "roots"...)
	list(g.Roots)
	return string(out)
}

func expect(t *testing.T, what string, got, want api.Graph) {
	t.Helper()
	if show(got) != show(want) {
		t.Errorf("%s:\n%swant:\n%s", what, show(got), show(want))
	}
}

func isEmpty(g api.Graph) bool { return len(g.Nodes) == 0 && len(g.Roots) == 0 }

// kinds that are atoms, after the chapter.
func isAtom(kind int) bool {
	return slices.Contains([]int{api.GNull, api.GBool, api.GInt, api.GChar, api.GSym, api.GEof, api.GVoid}, kind)
}

// sampleNode is a good node of some kind in a graph of so many nodes. There are few to choose from, so that many are the same.
func sampleNode(r *rand.Rand, nodes int) api.Node {
	kids := func(n int) []int {
		var out []int
		for range n {
			out = append(out, r.Intn(nodes))
		}
		return out
	}
	word := string(rune('a' + r.Intn(2)))
	switch kind := 1 + r.Intn(17); kind {
	case api.GBool:
		return node(kind, r.Intn(2), "")
	case api.GInt:
		return integer(strconv.Itoa(r.Intn(3) - 1))
	case api.GChar:
		return node(kind, r.Intn(2), "")
	case api.GSym, api.GProc, api.GString, api.GBytes:
		return node(kind, 0, word)
	case api.GPair:
		return node(kind, 0, "", kids(2)...)
	case api.GVector, api.GValues:
		return node(kind, 0, "", kids(r.Intn(4))...)
	case api.GRecord:
		return node(kind, 0, word, kids(r.Intn(4))...)
	case api.GCond:
		return node(kind, r.Intn(3), "", kids(2)...)
	default:
		return node(kind, 0, "")
	}
}

// sampleGraph is a good graph of at most so many nodes, with some roots or none.
func sampleGraph(r *rand.Rand, atMost int) api.Graph {
	n := r.Intn(atMost + 1)
	var g api.Graph
	for range n {
		if r.Intn(3) == 0 {
			g.Nodes = append(g.Nodes, pair(r.Intn(n), r.Intn(n)))
			continue
		}
		g.Nodes = append(g.Nodes, sampleNode(r, n))
	}
	if n > 0 {
		for range r.Intn(4) {
			g.Roots = append(g.Roots, r.Intn(n))
		}
	}
	return g
}

// samples are good graphs; the same ones at each run.
func samples(count int) []api.Graph {
	r := rand.New(rand.NewSource(21))
	out := []api.Graph{{}, {Nodes: []api.Node{}, Roots: []int{}}}
	for range count {
		out = append(out, sampleGraph(r, 9))
	}
	return out
}

// shuffled is the same graph with its nodes in another order, atoms torn apart, and nodes between them that nothing meets.
func shuffled(r *rand.Rand, g api.Graph) api.Graph {
	g = copied(g)
	nodes, roots := g.Nodes, g.Roots
	for i := range len(nodes) { // an atom's twin, taken up by some of those who held the atom
		if !isAtom(nodes[i].Kind) {
			continue
		}
		nodes = append(nodes, nodes[i])
		takeUp(r, roots, i, len(nodes)-1)
		for _, n := range nodes {
			takeUp(r, n.Kids, i, len(nodes)-1)
		}
	}
	for range r.Intn(4) {
		nodes = append(nodes, sampleNode(r, len(nodes)+1))
	}
	order := r.Perm(len(nodes))
	out := api.Graph{Nodes: make([]api.Node, len(nodes))}
	for i, n := range nodes {
		for k := range n.Kids {
			n.Kids[k] = order[n.Kids[k]]
		}
		out.Nodes[order[i]] = n
	}
	for _, p := range roots {
		out.Roots = append(out.Roots, order[p])
	}
	return out
}

// takeUp puts a twin in some of the places that hold the first one.
func takeUp(r *rand.Rand, places []int, first, twin int) {
	for i, p := range places {
		if p == first && r.Intn(2) == 0 {
			places[i] = twin
		}
	}
}

// copied shares nothing with what it copies.
func copied(g api.Graph) api.Graph {
	out := api.Graph{Nodes: slices.Clone(g.Nodes), Roots: slices.Clone(g.Roots)}
	for i := range out.Nodes {
		out.Nodes[i].Kids = slices.Clone(out.Nodes[i].Kids)
	}
	return out
}

// badNodes are nodes that are not good, in a graph of three nodes.
func badNodes() []api.Node {
	return []api.Node{
		{}, node(-1, 0, ""), node(18, 0, ""), node(api.GNull, 1, ""), node(api.GNull, 0, "x"), node(api.GNull, 0, "", 0),
		node(api.GBool, 2, ""), integer("007"), node(api.GChar, 0xd800, ""), text("\xff"), symbol(""),
		pair(0, 3), pair(-1, 0), vector(0, 1, 3), node(api.GCond, 3, "", 0, 0), node(api.GProc, 0, "", 0),
	}
}

// badGraphs are graphs that are not good, each for one reason alone.
func badGraphs() []api.Graph {
	var out []api.Graph
	for _, n := range badNodes() {
		for place := range 3 {
			nodes := []api.Node{null(), text("a"), integer("1")}
			nodes[place] = n
			out = append(out, graphOf([]int{0, 1, 2}, nodes...), graphOf(nil, nodes...), graphOf([]int{(place + 1) % 3}, nodes...))
		}
	}
	for _, root := range []int{-1, 1, 2, -1 << 63, 1<<63 - 1} {
		out = append(out, graphOf([]int{root}, null()), graphOf([]int{0, root}, null()))
	}
	return append(out, graphOf([]int{0}), graphOf([]int{-1}))
}

// alike walks two good graphs side by side and pairs their nodes: it says what Same is to say without any order of nodes.
func alike(a, b api.Graph) bool {
	there, back := map[int]int{}, map[int]int{}
	var walk func(x, y int) bool
	walk = func(x, y int) bool {
		m, n := a.Nodes[x], b.Nodes[y]
		if m.Kind != n.Kind || m.Num != n.Num || m.Text != n.Text || len(m.Kids) != len(n.Kids) {
			return false
		}
		if isAtom(m.Kind) {
			return true
		}
		to, met := there[x]
		from, reached := back[y]
		if met || reached {
			return met && reached && to == y && from == x
		}
		there[x], back[y] = y, x
		for i := range m.Kids {
			if !walk(m.Kids[i], n.Kids[i]) {
				return false
			}
		}
		return true
	}
	if len(a.Roots) != len(b.Roots) {
		return false
	}
	for i := range a.Roots {
		if !walk(a.Roots[i], b.Roots[i]) {
			return false
		}
	}
	return true
}

// canonOf is Canon after the chapter's words, by recursion and by looking through all that was met.
func canonOf(g api.Graph) api.Graph {
	var met []int
	find := func(p int) int {
		return slices.IndexFunc(met, func(q int) bool {
			m, n := g.Nodes[q], g.Nodes[p]
			return p == q || isAtom(n.Kind) && m.Kind == n.Kind && m.Num == n.Num && m.Text == n.Text
		})
	}
	var meet func(p int)
	meet = func(p int) {
		if find(p) >= 0 {
			return
		}
		met = append(met, p)
		for _, kid := range g.Nodes[p].Kids {
			meet(kid)
		}
	}
	var out api.Graph
	for _, root := range g.Roots {
		meet(root)
		out.Roots = append(out.Roots, find(root))
	}
	for _, p := range met {
		n := g.Nodes[p]
		var kids []int
		for _, kid := range n.Kids {
			kids = append(kids, find(kid))
		}
		out.Nodes = append(out.Nodes, node(n.Kind, n.Num, n.Text, kids...))
	}
	return out
}

func mustBeGood(t *testing.T, g api.Graph) {
	t.Helper()
	if !graph.Good(g) {
		t.Fatalf("not good:\n%s", show(g))
	}
}
