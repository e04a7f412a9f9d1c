package print_test

import (
	"math"
	"math/rand"
	"strings"
	"testing"

	"athanor/api"
	"athanor/graph"
	"athanor/print"
)

// Promise 5.1: ErrGraph of graphs that are not good, and of places that are no node's.

// badNodes are nodes that are not good, in a graph of three nodes.
func badNodes() []api.Node {
	return []api.Node{
		{}, node(-1, 0, ""), node(18, 0, ""), node(math.MaxInt, 0, ""), node(api.GNull, 1, ""), node(api.GNull, 0, "x"), node(api.GNull, 0, "", 0),
		truth(2), truth(-1), integer(""), integer("007"), integer("+1"), integer("x"), letter(-1), letter(0xd800), letter(0x110000), letter(1 << 32),
		text("\xff"), text(strings.Repeat("a", api.MaxItems+1)), symbol(""), symbol("\xff"), octets(strings.Repeat("a", api.MaxItems+1)),
		node(api.GPair, 0, ""), node(api.GPair, 0, "", 0), node(api.GPair, 0, "", 0, 0, 0), pair(0, 3), pair(-1, 0), vector(0, 1, 3), vector(make([]int, api.MaxItems+1)...),
		proc("\xff"), node(api.GProc, 0, "", 0), record("\xff"), record("r", 3), record("r", -1), condition(3, 0, 0), condition(-1, 0, 0), node(api.GCond, 0, "", 0),
		values(3), values(math.MinInt), node(api.GEnv, 0, "x"), node(api.GPort, 1, ""), node(api.GEof, 0, "", 0), node(api.GVoid, 0, "x"),
	}
}

// A graph is not good wherever its bad node lies, though it is not met.
func TestBadGraphs(t *testing.T) {
	for _, bad := range badNodes() {
		for place := range 3 {
			g := nodes(null(), text("a"), integer("1"))
			g.Nodes[place] = bad
			for n := -1; n <= 3; n++ {
				expectError(t, g, n, api.ErrGraph)
			}
		}
	}
}

func TestBadRoots(t *testing.T) {
	for _, root := range []int{-1, 2, 3, math.MinInt, math.MaxInt} {
		g := nodes(null(), text("a"))
		g.Roots = []int{0, root}
		expectError(t, g, 0, api.ErrGraph)
		expectError(t, g, 1, api.ErrGraph)
	}
}

func TestPlacesThatAreNone(t *testing.T) {
	g := nodes(pair(1, 0), text("a"), null())
	for _, n := range []int{-1, -2, -3, 3, 4, 1000, math.MinInt, math.MinInt32, math.MaxInt32, 1 << 32, math.MaxInt} {
		expectError(t, g, n, api.ErrGraph)
		expectError(t, api.Graph{}, n, api.ErrGraph)
	}
	expectError(t, api.Graph{}, 0, api.ErrGraph)
	expectError(t, api.Graph{Nodes: []api.Node{}, Roots: []int{}}, 0, api.ErrGraph)
	expectError(t, api.Graph{Roots: []int{0}}, 0, api.ErrGraph)
}

// ErrGraph is named ahead of ErrLong.
func TestBadAndLong(t *testing.T) {
	long := symbol(strings.Repeat("a", api.MaxText+1))
	expectError(t, nodes(long, symbol("a")), 0, api.ErrLong)
	expectError(t, nodes(long, symbol("")), 0, api.ErrGraph)
	expectError(t, nodes(vector(1), long, pair(0, 3)), 0, api.ErrGraph)
	expectError(t, nodes(long), 1, api.ErrGraph)
}

// Whatever is handed in, there is an answer: a text of what is good, else ErrGraph.
func TestAnything(t *testing.T) {
	r := rand.New(rand.NewSource(53))
	some := []int{-1, 0, 1, 2, 3, 4, math.MinInt, math.MaxInt}
	bad := 0
	for range 30000 {
		g := sampleGraph(r, 1+r.Intn(5), 17)
		for range r.Intn(3) {
			d := &g.Nodes[r.Intn(len(g.Nodes))]
			switch r.Intn(4) {
			case 0:
				d.Kind = r.Intn(20) - 1
			case 1:
				d.Num = some[r.Intn(len(some))]
			case 2:
				d.Text = []string{"", "1", "\xff", "a"}[r.Intn(4)]
			case 3:
				d.Kids = append([]int{}, some[:r.Intn(5)]...)
			}
		}
		n := some[r.Intn(len(some))]
		out, err := print.Print(g, n, r.Intn(2) == 0)
		good := graph.Good(g) && 0 <= n && n < len(g.Nodes)
		if good != (err == api.OK) || !good && (err != api.ErrGraph || out != "") {
			t.Fatalf("node %d of %v: %q, %d", n, g, out, err)
		}
		if !good {
			bad++
		}
	}
	if bad < 10000 || bad > 29000 {
		t.Error("too few of one sort; bad ones:", bad)
	}
}
