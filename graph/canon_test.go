package graph_test

import (
	"math/rand"
	"slices"
	"testing"

	"athanor/api"
	"athanor/graph"
)

// Promise 2.2: the order of what is met, and atoms that are one.

func TestCanonExamples(t *testing.T) {
	for _, c := range []struct {
		name    string
		g, want api.Graph
	}{
		{"an integer twice", graphOf([]int{0, 1}, integer("5"), integer("5")), graphOf([]int{0, 0}, integer("5"))},
		{"two empty strings", graphOf([]int{0, 1}, text(""), text("")), graphOf([]int{0, 1}, text(""), text(""))},
		{"its own cdr", graphOf([]int{1}, integer("1"), pair(0, 1)), graphOf([]int{0}, pair(1, 0), integer("1"))},
		{"its own car and cdr", graphOf([]int{0}, pair(0, 0)), graphOf([]int{0}, pair(0, 0))},
		{"no roots", graphOf(nil, integer("1"), pair(0, 0)), api.Graph{}},
		{"nothing", api.Graph{}, api.Graph{}},
		{"one root thrice", graphOf([]int{0, 0, 0}, text("a")), graphOf([]int{0, 0, 0}, text("a"))},
		{"roots in their order", graphOf([]int{2, 0, 1}, text("a"), text("b"), text("c")), graphOf([]int{0, 1, 2}, text("c"), text("a"), text("b"))},
		{"what nothing meets", graphOf([]int{3}, text("a"), pair(0, 1), integer("1"), vector(2)), graphOf([]int{0}, vector(1), integer("1"))},
		{"a node ahead of its kids, the left one with all that hangs on it", graphOf([]int{0}, vector(2, 1), text("right"), vector(4, 3), text("left's right"), text("left's left")),
			graphOf([]int{0}, vector(1, 4), vector(2, 3), text("left's left"), text("left's right"), text("right"))},
		{"a kid that is met below a brother first", graphOf([]int{0}, vector(1, 2), vector(3, 2), text("both"), text("one")),
			graphOf([]int{0}, vector(1, 3), vector(2, 3), text("one"), text("both"))},
		{"a root that is a kid of one ahead", graphOf([]int{1, 0}, text("a"), vector(2, 0), text("b")), graphOf([]int{0, 2}, vector(1, 2), text("b"), text("a"))},
		{"an atom where it is first met", graphOf([]int{0}, vector(1, 2, 3), symbol("a"), text("x"), symbol("a")), graphOf([]int{0}, vector(1, 2, 1), symbol("a"), text("x"))},
		{"round over two", graphOf([]int{1}, pair(2, 1), pair(3, 0), symbol("b"), symbol("a")), graphOf([]int{0}, pair(1, 2), symbol("a"), pair(3, 0), symbol("b"))},
	} {
		expect(t, c.name, graph.Canon(c.g), c.want)
	}
}

func TestAtomsAreOne(t *testing.T) {
	for _, n := range fullNodes() {
		if len(n.Kids) > 0 {
			continue
		}
		twice := graph.Canon(graphOf([]int{0, 1, 2, 0}, n, n, vector(0, 1)))
		if isAtom(n.Kind) {
			expect(t, "an atom", twice, graphOf([]int{0, 0, 1, 0}, n, vector(0, 0)))
		} else {
			expect(t, "no atom", twice, graphOf([]int{0, 1, 2, 0}, n, n, vector(0, 1)))
		}
	}
}

// Atoms that have something else are others: another kind, number or text.
func TestAtomsAreTold(t *testing.T) {
	all := []api.Node{
		null(), node(api.GEof, 0, ""), node(api.GVoid, 0, ""), node(api.GBool, 0, ""), node(api.GBool, 1, ""), node(api.GChar, 0, ""), node(api.GChar, 1, ""),
		integer("0"), integer("1"), symbol("0"), symbol("1"), symbol("a"), symbol("A"), symbol("a "), symbol("\u00e4"), symbol("a\u0308"),
	}
	var roots []int
	for i := range all {
		roots = append(roots, i)
	}
	g := graphOf(roots, all...)
	expect(t, "all differ", graph.Canon(g), g)
	twice := graph.Canon(graph.Join(g, g))
	expect(t, "each once", twice, graphOf(append(slices.Clone(roots), roots...), all...))
}

func TestCanonOfBad(t *testing.T) {
	for _, g := range badGraphs() {
		if c := graph.Canon(g); !isEmpty(c) {
			t.Errorf("Canon of what is not good:\n%s\n%s", show(g), show(c))
		}
	}
}

func TestCanonByTheWords(t *testing.T) {
	for _, g := range samples(3000) {
		c := graph.Canon(g)
		mustBeGood(t, c)
		expect(t, "Canon of\n"+show(g), c, canonOf(g))
	}
}

// Promise 2.4: Canon of Canon is Canon, whatever the order of nodes, whatever hangs on nothing.

func TestCanonStays(t *testing.T) {
	r := rand.New(rand.NewSource(22))
	for _, g := range samples(2000) {
		c := graph.Canon(g)
		expect(t, "Canon of Canon", graph.Canon(c), c)
		for range 3 {
			h := shuffled(r, g)
			mustBeGood(t, h)
			expect(t, "Canon of another order", graph.Canon(h), c)
			if !graph.Same(g, h) || !graph.Same(h, g) {
				t.Fatalf("not the same:\n%s\n%s", show(g), show(h))
			}
		}
	}
}

// A list is as deep as it is long.
func TestCanonOfLongLists(t *testing.T) {
	const n = 300000
	nodes := make([]api.Node, 0, 2*n+1)
	for i := range n {
		nodes = append(nodes, pair(n, i+1))
	}
	nodes[n-1].Kids[1] = 0 // it goes round
	g := graphOf([]int{n / 2}, append(nodes, symbol("x"))...)
	c := graph.Canon(g)
	if len(c.Nodes) != n+1 || c.Roots[0] != 0 || !slices.Equal(c.Nodes[n].Kids, []int{1, 0}) || !slices.Equal(c.Nodes[2].Kids, []int{1, 3}) {
		t.Fatalf("%d nodes, the last one %v", len(c.Nodes), c.Nodes[len(c.Nodes)-1])
	}
	for i := range nodes { // the other kid, too
		slices.Reverse(nodes[i].Kids)
	}
	c = graph.Canon(graphOf([]int{0}, append(nodes, symbol("x"))...))
	if len(c.Nodes) != n+1 || !slices.Equal(c.Nodes[0].Kids, []int{1, n}) || !slices.Equal(c.Nodes[n-1].Kids, []int{0, n}) {
		t.Fatalf("%d nodes, the first one %v", len(c.Nodes), c.Nodes[0])
	}
}

// What branches again and again is gone through once.
func TestCanonOfManyWays(t *testing.T) {
	var nodes []api.Node
	for i := range 2000 {
		nodes = append(nodes, pair(i+1, i+1))
	}
	nodes = append(nodes, null())
	g := graphOf([]int{0}, nodes...)
	expect(t, "many ways", graph.Canon(g), g)
}
