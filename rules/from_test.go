package rules_test

import (
	"math"
	"math/rand"
	"strings"
	"testing"

	"athanor/api"
	"athanor/graph"
	"athanor/read"
	"athanor/rules"
)

// Promise 12.1: From.

func node(kind, num int, text string, kids ...int) api.Node {
	return api.Node{Kind: kind, Num: num, Text: text, Kids: kids}
}

func graphOf(nodes ...api.Node) api.Graph { return api.Graph{Nodes: nodes} }

// checkFrom holds what From tells of a node.
func checkFrom(t *testing.T, g api.Graph, n int, want string) {
	t.Helper()
	s, err := rules.From(g, n)
	if got := answer(s, err); got != want {
		t.Errorf("From of node %d of %v: %.200s, want %.200s", n, g.Nodes[:min(len(g.Nodes), 9)], got, want)
	}
}

func TestFromOfEachKind(t *testing.T) {
	for _, c := range []struct {
		n    api.Node
		want string
	}{
		{node(api.GNull, 0, ""), "()"}, {node(api.GBool, 0, ""), "#f"}, {node(api.GBool, 1, ""), "#t"}, {node(api.GInt, 0, "-12"), "-12"}, {node(api.GChar, 'x', ""), "#\\x"},
		{node(api.GString, 0, "a\"b"), "\"a\\\"b\""}, {node(api.GString, 0, ""), "\"\""}, {node(api.GSym, 0, "name"), "name"}, {node(api.GSym, 0, "..."), "..."},
		{node(api.GPair, 0, "", 1, 2), "(left . right)"}, {node(api.GPair, 0, "", 1, 3), "(left)"}, {node(api.GPair, 0, "", 3, 3), "(())"}, {node(api.GPair, 0, "", 3, 1), "(() . left)"},
		{node(api.GVector, 0, ""), "#()"}, {node(api.GVector, 0, "", 1, 3, 2, 1), "#(left () right left)"}, {node(api.GBytes, 0, "\x00\xff"), "#u8(0 255)"}, {node(api.GBytes, 0, ""), "#u8()"},
		{node(api.GEof, 0, ""), "ErrSyntax"}, {node(api.GVoid, 0, ""), "ErrSyntax"}, {node(api.GProc, 0, "car"), "ErrSyntax"}, {node(api.GProc, 0, ""), "ErrSyntax"}, {node(api.GCond, 1, "", 1, 3), "ErrSyntax"},
		{node(api.GEnv, 0, ""), "ErrSyntax"}, {node(api.GRecord, 0, "point", 1, 2), "ErrSyntax"}, {node(api.GValues, 0, "", 1), "ErrSyntax"}, {node(api.GPort, 0, ""), "ErrSyntax"},
	} {
		g := graphOf(c.n, node(api.GSym, 0, "left"), node(api.GSym, 0, "right"), node(api.GNull, 0, ""))
		checkFrom(t, g, 0, c.want)
		g.Nodes = append(g.Nodes, node(api.GPair, 0, "", 1, 5), node(api.GPair, 0, "", 0, 3), node(api.GVector, 0, "", 2, 0))
		if c.want == "ErrSyntax" { // so it is wherever it is met
			checkFrom(t, g, 4, c.want)
			checkFrom(t, g, 6, c.want)
			checkFrom(t, g, 1, "left") // and is nothing where it is not
			continue
		}
		checkFrom(t, g, 4, "(left "+c.want+")")
		checkFrom(t, g, 6, "#(right "+c.want+")")
	}
}

func TestFromOfWhatIsRead(t *testing.T) {
	for _, c := range [][2]string{
		{"a", "a"}, {"()", "()"}, {"(a . ())", "(a)"}, {"(a . (b . (c . ())))", "(a b c)"}, {"(a . (b . c))", "(a b . c)"}, {"((a . b) . (c . #(d (e . f))))", "((a . b) c . #(d (e . f)))"},
		{"'a", "(quote a)"}, {"`(a ,b ,@c)", "(quasiquote (a (unquote b) (unquote-splicing c)))"}, {"(1 \"x\" #\\y #t #u8(1 2) . 5)", "(1 \"x\" #\\y #t #u8(1 2) . 5)"},
		{"(#0=(a b) #0# . #0#)", "((a b) (a b) a b)"}, {"(#0=\"s\" #0#)", "(\"s\" \"s\")"}, {"(#0=#(x) . #0#)", "(#(x) . #(x))"}, {"#0=(a . #0#)", "ErrSyntax"}, {"#0=(#0#)", "ErrSyntax"}, {"#0=#(a #0#)", "ErrSyntax"},
		{"(a b . #0=(c #(d (#0#))))", "ErrSyntax"}, {"(#0=(a . #0#))", "ErrSyntax"},
	} {
		g, err, _ := read.Read([]byte(c[0]))
		if err != api.OK {
			t.Fatal(c[0], err)
		}
		checkFrom(t, g, g.Roots[0], c[1])
	}
}

// Identifiers have no stamps, and what a kind does not have is zero.
func TestFromTellsPieces(t *testing.T) {
	r := rand.New(rand.NewSource(121))
	for range 1500 {
		g := sampleGraph(r)
		for n := range g.Nodes {
			want := "ErrSyntax"
			if s, ok := fromOf(g, n); ok {
				want = write(s)
			}
			s, err := rules.From(g, n)
			if got := answer(s, err); got != want {
				t.Fatalf("From of node %d of %v: %.200s, want %.200s", n, g.Nodes, got, want)
			}
			if err == api.OK && (rules.Size(s) != sizeOf(s) || sizeOf(s) > api.MaxForms || hasStamps(s)) {
				t.Fatalf("no piece, or with stamps: %s", write(s))
			}
		}
	}
}

// sampleGraph is a good graph of few nodes, mostly of those kinds that make pieces; it may go round.
func sampleGraph(r *rand.Rand) api.Graph {
	n := 1 + r.Intn(7)
	var g api.Graph
	for range n {
		kids := []int{r.Intn(n), r.Intn(n), r.Intn(n)}
		if r.Intn(2) == 0 { // ahead alone, so that some do not go round
			for i := range kids {
				kids[i] = min(n-1, len(g.Nodes)+1+r.Intn(3))
			}
		}
		g.Nodes = append(g.Nodes, []api.Node{
			node(api.GPair, 0, "", kids[:2]...), node(api.GPair, 0, "", kids[:2]...), node(api.GPair, 0, "", kids[1:]...), node(api.GVector, 0, "", kids[:r.Intn(4)]...), node(api.GNull, 0, ""), node(api.GNull, 0, ""),
			node(api.GSym, 0, "a"), node(api.GSym, 0, "b"), node(api.GInt, 0, "5"), node(api.GString, 0, "t"), node(api.GBytes, 0, "t"), node(api.GChar, 65, ""), node(api.GBool, 1, ""),
			node([]int{api.GVoid, api.GEof, api.GProc, api.GValues}[r.Intn(4)], 0, ""),
		}[r.Intn(14)])
	}
	return g
}

func hasStamps(s api.Syn) bool {
	for _, k := range append(append([]api.Syn(nil), s.Kids...), s.Tail...) {
		if hasStamps(k) {
			return true
		}
	}
	return len(s.Stamps) > 0
}

func TestFromOfWrongGraphs(t *testing.T) {
	fine := []api.Node{node(api.GSym, 0, "a"), node(api.GNull, 0, ""), node(api.GPair, 0, "", 0, 1)}
	for _, bad := range []api.Node{{}, node(99, 0, ""), node(api.GSym, 0, ""), node(api.GSym, 0, "\xff"), node(api.GInt, 0, "007"), node(api.GInt, 0, ""), node(api.GPair, 0, "", 0, 4), node(api.GPair, 0, "", -1, 0), node(api.GPair, 0, "", 0),
		node(api.GVector, 0, "", 9), node(api.GBool, 2, ""), node(api.GChar, 0xd800, ""), node(api.GNull, 1, ""), node(api.GString, 0, "\xff"), node(api.GBytes, 0, strings.Repeat("x", api.MaxItems+1))} {
		g := graphOf(append(append([]api.Node(nil), fine...), bad)...)
		for n := range g.Nodes { // what is not met counts, too
			checkFrom(t, g, n, "ErrSyntax")
		}
	}
	for _, root := range []int{-1, 3, math.MaxInt, math.MinInt} {
		checkFrom(t, api.Graph{Nodes: fine, Roots: []int{0, root}}, 2, "ErrSyntax")
	}
	checkFrom(t, api.Graph{Nodes: fine, Roots: []int{0, 1}}, 2, "(a)")
	for _, n := range []int{-1, 3, 4, math.MaxInt, math.MinInt} {
		checkFrom(t, graphOf(fine...), n, "ErrSyntax")
	}
	for _, n := range []int{-1, 0, 1} {
		checkFrom(t, api.Graph{}, n, "ErrSyntax")
	}
}

// listOf is a graph of a list of so many names, with something at its end.
func listOf(n int, end api.Node) api.Graph {
	var g api.Graph
	for i := range n {
		g.Nodes = append(g.Nodes, node(api.GPair, 0, "", n, i+1))
	}
	if n > 0 {
		g.Nodes[n-1].Kids[1] = n + 1
	}
	g.Nodes = append(g.Nodes, node(api.GSym, 0, "x"), end)
	return g
}

func TestFromAtItsLimit(t *testing.T) {
	const most = api.MaxForms
	fits := func(what string, g api.Graph, n int, want bool) {
		t.Helper()
		s, err := rules.From(g, n)
		if (err == api.OK) != want || err != api.OK && answer(s, err) != "ErrSyntax" {
			t.Errorf("%s: %d", what, err)
		}
		if want && rules.Size(s) != most {
			t.Errorf("%s: %d pieces", what, rules.Size(s))
		}
	}
	null, name := node(api.GNull, 0, ""), node(api.GSym, 0, "y")
	fits("a list", listOf(most-1, null), 0, true)
	fits("a list of one more", listOf(most, null), 0, false)
	fits("a list with a Tail", listOf(most-2, name), 0, true)
	fits("one of one more", listOf(most-1, name), 0, false)
	fits("a long one", listOf(100*most, null), 0, false)

	deep := func(n int) api.Graph { // so many lists within one another
		var g api.Graph
		for i := range n - 1 {
			g.Nodes = append(g.Nodes, node(api.GPair, 0, "", i+1, n-1))
		}
		g.Nodes = append(g.Nodes, null)
		return g
	}
	fits("lists within one another", deep(most), 0, true)
	fits("one more", deep(most+1), 0, false)
	fits("many more", deep(100*most), 0, false)

	vectors := graphOf(node(api.GVector, 0, ""), node(api.GVector, 0, ""), node(api.GSym, 0, "x"), node(api.GPair, 0, "", 0, 1))
	for range 1000 {
		vectors.Nodes[0].Kids = append(vectors.Nodes[0].Kids, 2)
	}
	for range 997 {
		vectors.Nodes[1].Kids = append(vectors.Nodes[1].Kids, 2)
	}
	fits("vectors", vectors, 3, true)
	vectors.Nodes[1].Kids = append(vectors.Nodes[1].Kids, 2)
	fits("vectors of one more", vectors, 3, false)

	twice := graphOf(null) // each is a list of the one ahead and of what is in it
	for i := range 300 {
		twice.Nodes = append(twice.Nodes, node(api.GPair, 0, "", i, i))
	}
	fits("what is told twice again and again", twice, 300, false)
	if !graph.Good(twice) {
		t.Error("not good")
	}
}
