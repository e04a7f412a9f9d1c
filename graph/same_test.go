package graph_test

import (
	"math"
	"math/rand"
	"slices"
	"testing"

	"athanor/api"
	"athanor/graph"
)

// Promise 2.3: what is the same, and two side by side.

func TestSameExamples(t *testing.T) {
	self := graphOf([]int{0}, pair(1, 0), integer("1"))
	for _, c := range []struct {
		name string
		a, b api.Graph
		want bool
	}{
		{"nothing and nothing", api.Graph{}, api.Graph{Nodes: []api.Node{}, Roots: []int{}}, true},
		{"nothing, and what nothing meets", api.Graph{}, graphOf(nil, pair(0, 0)), true},
		{"one integer and two", graphOf([]int{0, 0}, integer("5")), graphOf([]int{0, 1}, integer("5"), integer("5")), true},
		{"one string and two", graphOf([]int{0, 0}, text("")), graphOf([]int{0, 1}, text(""), text("")), false},
		{"one pair and two", graphOf([]int{0}, vector(1, 1), pair(2, 2), null()), graphOf([]int{0}, vector(1, 2), pair(3, 3), pair(3, 3), null()), false},
		{"another order", graphOf([]int{0}, pair(1, 2), integer("1"), null()), graphOf([]int{2}, null(), integer("1"), pair(1, 0)), true},
		{"one round and two", self, graphOf([]int{0}, pair(1, 2), integer("1"), pair(1, 0)), false},
		{"the round from its other end", graphOf([]int{0}, pair(2, 1), pair(2, 0), integer("1")), graphOf([]int{1}, pair(2, 1), pair(2, 0), integer("1")), true},
		{"other kids", graphOf([]int{0}, pair(1, 2), integer("1"), null()), graphOf([]int{0}, pair(2, 1), integer("1"), null()), false},
		{"another kind", graphOf([]int{0}, text("1")), graphOf([]int{0}, symbol("1")), false},
		{"another number", graphOf([]int{0}, node(api.GChar, 1, "")), graphOf([]int{0}, node(api.GChar, 2, "")), false},
		{"another text", graphOf([]int{0}, text("1")), graphOf([]int{0}, text("2")), false},
		{"another root", graphOf([]int{0}, text("1"), text("2")), graphOf([]int{1}, text("1"), text("2")), false},
		{"a root more", graphOf([]int{0}, text("1")), graphOf([]int{0, 0}, text("1")), false},
		{"roots turned", graphOf([]int{0, 1}, text("1"), text("2")), graphOf([]int{1, 0}, text("1"), text("2")), false},
		{"a kid more", graphOf([]int{0}, vector(1), null()), graphOf([]int{0}, vector(1, 1), null()), false},
		{"a kid less", graphOf([]int{0}, node(api.GValues, 0, "")), graphOf([]int{0}, node(api.GValues, 0, "", 0)), false},
	} {
		if got := graph.Same(c.a, c.b); got != c.want {
			t.Errorf("Same of %s = %v", c.name, got)
		}
		if got := graph.Same(c.b, c.a); got != c.want {
			t.Errorf("Same of %s, turned = %v", c.name, got)
		}
	}
}

func TestSameOfBad(t *testing.T) {
	for _, bad := range badGraphs() {
		if graph.Same(bad, bad) || graph.Same(bad, api.Graph{}) || graph.Same(api.Graph{}, bad) {
			t.Errorf("Same of what is not good:\n%s", show(bad))
		}
	}
}

// Small graphs are often the same: all of them are held against each other.
func TestSameByPairs(t *testing.T) {
	r := rand.New(rand.NewSource(23))
	var all []api.Graph
	for range 150 {
		g := sampleGraph(r, 3)
		all = append(all, g, shuffled(r, g))
	}
	same := 0
	for i, a := range all {
		for j, b := range all {
			got := graph.Same(a, b)
			if got != alike(a, b) {
				t.Fatalf("Same = %v of\n%s\n%s", got, show(a), show(b))
			}
			if got && i != j && len(a.Roots) > 0 {
				same++
			}
		}
	}
	if same < 100 {
		t.Errorf("only %d were the same: the samples tell nothing", same)
	}
}

// Promise 2.4: Same is an equality.
func TestSameIsAnEquality(t *testing.T) {
	r := rand.New(rand.NewSource(24))
	for _, a := range samples(300) {
		b, c := shuffled(r, a), sampleGraph(r, 2)
		if !graph.Same(a, a) {
			t.Fatalf("not the same as itself:\n%s", show(a))
		}
		if graph.Same(a, c) != graph.Same(c, a) || graph.Same(a, b) && graph.Same(b, c) != graph.Same(a, c) {
			t.Fatalf("no equality:\n%s\n%s\n%s", show(a), show(b), show(c))
		}
	}
}

func TestJoinExamples(t *testing.T) {
	a := graphOf([]int{1, 0}, integer("1"), pair(0, 1))
	b := graphOf([]int{0, 2}, vector(1, 2, 0), text("x"), null())
	expect(t, "two", graph.Join(a, b), graphOf([]int{1, 0, 2, 4}, integer("1"), pair(0, 1), vector(3, 4, 2), text("x"), null()))
	expect(t, "turned", graph.Join(b, a), graphOf([]int{0, 2, 4, 3}, vector(1, 2, 0), text("x"), null(), integer("1"), pair(3, 4)))
	expect(t, "nothing in front", graph.Join(api.Graph{}, b), b)
	expect(t, "nothing behind", graph.Join(a, api.Graph{}), a)
	expect(t, "nothing", graph.Join(api.Graph{}, api.Graph{}), api.Graph{})
	expect(t, "what nothing meets is kept", graph.Join(graphOf(nil, text("x")), graphOf(nil, text("x"))), graphOf(nil, text("x"), text("x")))
	expect(t, "atoms are kept", graph.Join(graphOf([]int{0}, null()), graphOf([]int{0}, null())), graphOf([]int{0, 1}, null(), null()))
}

func TestJoinOfSamples(t *testing.T) {
	all := samples(60)
	for _, a := range all {
		for _, b := range all {
			j := graph.Join(a, b)
			mustBeGood(t, j)
			if len(j.Nodes) != len(a.Nodes)+len(b.Nodes) || len(j.Roots) != len(a.Roots)+len(b.Roots) {
				t.Fatalf("%d nodes, %d roots", len(j.Nodes), len(j.Roots))
			}
			front := api.Graph{Nodes: j.Nodes, Roots: j.Roots[:len(a.Roots)]}
			behind := api.Graph{Nodes: j.Nodes, Roots: j.Roots[len(a.Roots):]}
			if !graph.Same(front, a) || !graph.Same(behind, b) {
				t.Fatalf("Join of\n%s\n%s\n%s", show(a), show(b), show(j))
			}
		}
	}
}

// R1: no call panics; what is joined to something that is not good is there in full.
func TestJoinOfBad(t *testing.T) {
	for _, bad := range append(badGraphs(), graphOf([]int{math.MaxInt}, pair(math.MaxInt, math.MinInt))) {
		good := graphOf([]int{0}, text("a"))
		if j := graph.Join(bad, good); len(j.Nodes) != len(bad.Nodes)+1 || len(j.Roots) != len(bad.Roots)+1 {
			t.Errorf("in front:\n%s", show(j))
		}
		if j := graph.Join(good, bad); len(j.Nodes) != len(bad.Nodes)+1 || len(j.Roots) != len(bad.Roots)+1 {
			t.Errorf("behind:\n%s", show(j))
		}
	}
}

// R4: what is handed in is not changed, nor what lies behind a list's end; an answer is new memory.
func TestMemory(t *testing.T) {
	kids := []int{1, 2, 77}
	roots := []int{0, 1, 88}
	nodes := []api.Node{vector(kids[:2]...), text("x"), null(), symbol("behind")}
	a := api.Graph{Nodes: nodes[:3], Roots: roots[:2]}
	a.Nodes[0].Kids = kids[:2]
	before := copied(api.Graph{Nodes: nodes, Roots: roots})
	answers := []api.Graph{graph.Canon(a), graph.Join(a, a), graph.Join(a, api.Graph{}), graph.Join(api.Graph{}, a), graph.Canon(a)}
	graph.Same(a, a)
	graph.Good(a)
	for i, g := range answers {
		others := make([]api.Graph, len(answers))
		for j := range answers {
			others[j] = copied(answers[j])
		}
		scribble(g)
		for j := range answers {
			if j != i {
				expect(t, "another answer", answers[j], others[j])
			}
		}
		answers[i] = others[i]
	}
	expect(t, "an argument", api.Graph{Nodes: nodes, Roots: roots}, before)
	if !slices.Equal(kids, []int{1, 2, 77}) {
		t.Errorf("kids were changed: %v", kids)
	}
}

// No two lists of one answer share memory.
func TestListsOfOneAnswer(t *testing.T) {
	shared := []int{1, 1}
	a := graphOf(shared, vector(shared...), vector(shared...))
	a.Nodes[0].Kids, a.Nodes[1].Kids = shared, shared
	for _, g := range []api.Graph{graph.Canon(a), graph.Join(a, a)} {
		lists := [][]int{g.Roots}
		for _, n := range g.Nodes {
			lists = append(lists, n.Kids)
		}
		for i, one := range lists {
			for j, other := range lists {
				if i != j && &one[:1][0] == &other[:1][0] {
					t.Errorf("lists %d and %d are one", i, j)
				}
			}
		}
	}
}

// scribble writes over all that a graph's lists reach.
func scribble(g api.Graph) {
	for i := range g.Nodes {
		kids := g.Nodes[i].Kids
		for k := range kids[:cap(kids)] {
			kids[:cap(kids)][k] = -99
		}
	}
	for i := range g.Nodes[:cap(g.Nodes)] {
		g.Nodes[:cap(g.Nodes)][i] = node(-99, -99, "over")
	}
	for i := range g.Roots[:cap(g.Roots)] {
		g.Roots[:cap(g.Roots)][i] = -99
	}
}
