package rules_test

import (
	"math/rand"
	"strconv"
	"strings"
	"testing"

	"athanor/api"
	"athanor/graph"
	"athanor/print"
	"athanor/rules"
)

// Promise 12.1: To and Size.

// showGraph tells a graph in full.
func showGraph(g api.Graph) string {
	out := ""
	places := func(all []int) {
		for _, p := range all {
			out += " " + strconv.Itoa(p)
		}
	}
	for _, n := range g.Nodes {
		out += strconv.Itoa(n.Kind) + "," + strconv.Itoa(n.Num) + strconv.Quote(n.Text)
		places(n.Kids)
		out += "; "
	}
	out += "roots"
	places(g.Roots)
	return out
}

func isNoGraph(g api.Graph) bool { return len(g.Nodes) == 0 && len(g.Roots) == 0 }

func TestToOfEachPiece(t *testing.T) {
	null, a := node(api.GNull, 0, ""), node(api.GSym, 0, "a")
	for _, c := range []struct {
		s    api.Syn
		want api.Graph
	}{
		{id("a"), graphOf(a)}, {id("a", 1, -2), graphOf(a)}, {list(), graphOf(null)}, {vector(), graphOf(node(api.GVector, 0, ""))}, {number(5), graphOf(node(api.GInt, 0, "5"))}, {text(""), graphOf(node(api.GString, 0, ""))},
		{list(id("a", 3)), graphOf(node(api.GPair, 0, "", 1, 2), a, null)},
		{list(id("a"), id("a", 1)), graphOf(node(api.GPair, 0, "", 1, 2), a, node(api.GPair, 0, "", 1, 3), null)}, // names are atoms: without stamps they are one
		{dotted(id("a"), id("a")), graphOf(node(api.GPair, 0, "", 1, 1), a)},
		{dotted(number(1), id("a"), list()), graphOf(node(api.GPair, 0, "", 1, 2), a, node(api.GPair, 0, "", 3, 4), null, node(api.GInt, 0, "1"))},
		{list(list(), list()), graphOf(node(api.GPair, 0, "", 1, 2), null, node(api.GPair, 0, "", 1, 1))},
		{dotted(vector(id("a"), list()), number(1)), graphOf(node(api.GPair, 0, "", 1, 2), node(api.GInt, 0, "1"), node(api.GVector, 0, "", 3, 4), a, null)},
		// each list, vector, text and bytes is one of its own
		{vector(text("x"), text("x")), graphOf(node(api.GVector, 0, "", 1, 2), node(api.GString, 0, "x"), node(api.GString, 0, "x"))},
		{vector(vector(), vector()), graphOf(node(api.GVector, 0, "", 1, 2), node(api.GVector, 0, ""), node(api.GVector, 0, ""))},
		{vector(list(id("a")), list(id("a"))), graphOf(node(api.GVector, 0, "", 1, 4), node(api.GPair, 0, "", 2, 3), a, null, node(api.GPair, 0, "", 2, 3))},
		{vector(atom(node(api.GBytes, 0, "x")), atom(node(api.GBytes, 0, "x"))), graphOf(node(api.GVector, 0, "", 1, 2), node(api.GBytes, 0, "x"), node(api.GBytes, 0, "x"))},
	} {
		c.want.Roots = []int{0}
		if got := rules.To(c.s); showGraph(got) != showGraph(c.want) {
			t.Errorf("To(%s):\n%s, want\n%s", write(c.s), showGraph(got), showGraph(c.want))
		}
	}
	for _, s := range atoms() {
		want := api.Graph{Nodes: []api.Node{s.Atom}, Roots: []int{0}}
		if got := rules.To(s); showGraph(got) != showGraph(want) {
			t.Errorf("To(%s): %s", write(s), showGraph(got))
		}
	}
}

// samplePiece is a piece of about so many pieces at most.
func samplePiece(r *rand.Rand, size int) api.Syn {
	if size <= 1 || r.Intn(4) == 0 {
		if r.Intn(3) == 0 {
			return atoms()[r.Intn(len(atoms()))]
		}
		return id([]string{"a", "b", "...", "_"}[r.Intn(4)], [][]int{nil, nil, {1}, {1, 2}, {12}}[r.Intn(5)]...)
	}
	var kids []api.Syn
	for range r.Intn(4) {
		kids = append(kids, samplePiece(r, size/3))
	}
	if r.Intn(4) == 0 {
		return vector(kids...)
	}
	if tail := samplePiece(r, size/3); len(kids) > 0 && tail.Kind != api.SList && r.Intn(3) == 0 {
		return dotted(tail, kids...)
	}
	return list(kids...)
}

func TestToByTheWords(t *testing.T) {
	r := rand.New(rand.NewSource(122))
	for range 5000 {
		s := samplePiece(r, 40)
		got := rules.To(s)
		if showGraph(got) != showGraph(toOf(s)) {
			t.Fatalf("To(%s):\n%s, want\n%s", write(s), showGraph(got), showGraph(toOf(s)))
		}
		if !graph.Good(got) || showGraph(graph.Canon(got)) != showGraph(got) {
			t.Fatalf("To(%s) is not good, or in another order", write(s))
		}
		back, err := rules.From(got, got.Roots[0]) // without stamps it is the same piece
		if err != api.OK || write(back) != write(unstamped(s)) {
			t.Fatalf("From of To of %s: %d, %s", write(s), err, write(back))
		}
		if got := rules.Size(s); got != sizeOf(s) {
			t.Fatalf("Size(%s) = %d", write(s), got)
		}
		if out, _ := print.Print(got, 0, false); out != write(unstamped(s)) {
			t.Fatalf("To(%s) is printed as %s", write(s), out)
		}
	}
}

func unstamped(s api.Syn) api.Syn {
	s = copied(s)
	var strip func(s *api.Syn)
	strip = func(s *api.Syn) {
		s.Stamps = nil
		for i := range s.Kids {
			strip(&s.Kids[i])
		}
		for i := range s.Tail {
			strip(&s.Tail[i])
		}
	}
	strip(&s)
	return s
}

// noPieces are no pieces, each for one reason.
func noPieces() []api.Syn {
	a := id("a")
	five := node(api.GInt, 0, "5")
	out := []api.Syn{
		{}, {Kind: -1}, {Kind: 5}, {Kind: 1 << 40}, {Kind: 5, Kids: []api.Syn{a}},
		dotted(list(), a), dotted(list(a), a), dotted(dotted(a, a), a), dotted(a), {Kind: api.SList, Tail: []api.Syn{a}, Kids: []api.Syn{}}, {Kind: api.SList, Kids: []api.Syn{a}, Tail: []api.Syn{a, a}},
		{Kind: api.SList, Text: "x"}, {Kind: api.SList, Stamps: []int{1}}, {Kind: api.SList, Atom: five}, {Kind: api.SList, Kids: []api.Syn{a}, Atom: api.Node{Num: 1}},
		{Kind: api.SVector, Text: "x"}, {Kind: api.SVector, Stamps: []int{0}}, {Kind: api.SVector, Atom: five}, {Kind: api.SVector, Kids: []api.Syn{a}, Tail: []api.Syn{a}}, {Kind: api.SVector, Tail: []api.Syn{a}},
		{Kind: api.SId, Text: "a", Kids: []api.Syn{a}}, {Kind: api.SId, Text: "a", Tail: []api.Syn{a}}, {Kind: api.SId, Text: "a", Atom: five}, {Kind: api.SId, Text: "a", Atom: api.Node{Kind: 1}}, {Kind: api.SId, Text: "a", Atom: api.Node{Num: 1}}, {Kind: api.SId, Text: "a", Atom: api.Node{Text: "x"}}, {Kind: api.SId, Text: "a", Atom: api.Node{Kids: []int{0}}},
		{Kind: api.SAtom}, {Kind: api.SAtom, Atom: five, Text: "x"}, {Kind: api.SAtom, Atom: five, Stamps: []int{1}}, {Kind: api.SAtom, Atom: five, Kids: []api.Syn{a}}, {Kind: api.SAtom, Atom: five, Tail: []api.Syn{a}},
	}
	for _, n := range []api.Node{
		node(api.GNull, 0, ""), node(api.GSym, 0, "a"), node(api.GPair, 0, "", 0, 0), node(api.GVector, 0, ""), node(api.GVector, 0, "", 0), node(api.GEof, 0, ""), node(api.GVoid, 0, ""), node(api.GProc, 0, ""), node(api.GCond, 0, "", 0, 0), node(api.GEnv, 0, ""), node(api.GRecord, 0, ""), node(api.GValues, 0, ""), node(api.GPort, 0, ""),
		node(api.GInt, 0, ""), node(api.GInt, 0, "007"), node(api.GInt, 1, "7"), node(api.GInt, 0, "7", 0), node(api.GBool, 2, ""), node(api.GBool, 1, "x"), node(api.GChar, 0xd800, ""), node(api.GChar, 0x110000, ""), node(api.GString, 0, "\xff"), node(api.GString, 0, strings.Repeat("x", api.MaxItems+1)), node(api.GBytes, 0, strings.Repeat("x", api.MaxItems+1)), node(api.GBytes, 1, ""), node(18, 0, ""), node(-1, 0, ""),
	} {
		out = append(out, atom(n))
	}
	return out
}

// around is a piece with something in it, in each place where something may stand.
func around(s api.Syn) []api.Syn {
	a := id("a")
	return []api.Syn{s, list(s), list(a, s), list(s, a), vector(a, s, a), list(list(a, vector(s))), dotted(a, s), dotted(vector(s), a)}
}

func TestWhatIsNoPiece(t *testing.T) {
	for _, bad := range noPieces() {
		for _, s := range append(around(bad), dotted(bad, id("a"))) {
			if got := rules.Size(s); got != api.MaxForms+1 {
				t.Errorf("Size(%s) = %d", write(s), got)
			}
			if g := rules.To(s); !isNoGraph(g) {
				t.Errorf("To(%s): %s", write(s), showGraph(g))
			}
		}
	}
}

// An empty list that is not nil is no list, too.
func TestEmptyListsAreNone(t *testing.T) {
	no, none, nowhere := []api.Syn{}, []int{}, []int{}
	for _, s := range []api.Syn{
		{Kind: api.SId, Text: "a", Stamps: none, Kids: no, Tail: no, Atom: api.Node{Kids: nowhere}}, {Kind: api.SList, Stamps: none, Kids: no, Tail: no, Atom: api.Node{Kids: nowhere}},
		{Kind: api.SVector, Stamps: none, Kids: no, Tail: no, Atom: api.Node{Kids: nowhere}}, {Kind: api.SAtom, Stamps: none, Kids: no, Tail: no, Atom: api.Node{Kind: api.GInt, Text: "1", Kids: nowhere}},
	} {
		if rules.Size(s) != 1 || len(rules.To(s).Nodes) != 1 {
			t.Errorf("%s: Size %d, To %s", write(s), rules.Size(s), showGraph(rules.To(s)))
		}
	}
}

func TestSize(t *testing.T) {
	for source, want := range map[string]int{"a": 1, "()": 1, "#()": 1, "5": 1, "\"text\"": 1, "#u8(1 2 3)": 1, "(a)": 2, "(a . b)": 3, "(a b . c)": 4, "#(a (b) #(c))": 6, "((()) ())": 4, "'a": 3, "a~1~2": 1} {
		if got := rules.Size(piece(t, source)); got != want {
			t.Errorf("Size(%s) = %d, want %d", source, got, want)
		}
	}
}

func TestSizeAtItsLimit(t *testing.T) {
	a := id("a", 1)
	deep := func(n int) api.Syn {
		s := list()
		for range n - 1 {
			s = list(s)
		}
		return s
	}
	const most = api.MaxForms
	for _, c := range []struct {
		what string
		s    api.Syn
		want int
	}{
		{"a list of one less", list(row(most-2, a)...), most - 1}, {"a list", list(row(most-1, a)...), most}, {"a list of one more", list(row(most, a)...), most + 1}, {"of two more", list(row(most+1, a)...), most + 1}, {"of many more", list(row(100*most, a)...), most + 1},
		{"a list with a Tail", dotted(a, row(most-2, a)...), most}, {"one of one more", dotted(a, row(most-1, a)...), most + 1}, {"a vector", vector(row(1024, a)...), 1025},
		{"lists within one another", deep(most), most}, {"one more", deep(most + 1), most + 1}, {"as deep as may be", deep(10000), most + 1},
		{"a list of lists", list(row((most-1)/2, list(a))...), most - 1}, {"of one more", list(row((most-1)/2+1, list(a))...), most + 1},
	} {
		if got := rules.Size(c.s); got != c.want {
			t.Errorf("%s: %d, want %d", c.what, got, c.want)
		}
		if g := rules.To(c.s); isNoGraph(g) != (c.want > most) || !isNoGraph(g) && showGraph(g) != showGraph(toOf(c.s)) {
			t.Errorf("%s: To has %d nodes", c.what, len(g.Nodes))
		}
	}
}

// What goes round, or branches again and again, is too great.
func TestSizeEnds(t *testing.T) {
	ring := make([]api.Syn, 1)
	ring[0] = list(ring...)
	ring[0].Kids = ring
	wide := list()
	for range 200 {
		wide = list(wide, wide)
	}
	tails := make([]api.Syn, 1)
	tails[0] = api.Syn{Kind: api.SVector, Kids: tails}
	for _, s := range []api.Syn{ring[0], list(ring...), wide, tails[0], dotted(tails[0], id("a"))} {
		if rules.Size(s) != api.MaxForms+1 || !isNoGraph(rules.To(s)) {
			t.Error("it is not too great")
		}
	}
}

// A node that may not be is in no graph.
func TestToOfWhatIsNoGoodNode(t *testing.T) {
	for _, s := range []api.Syn{id(""), id("\xff"), id("", 1), vector(row(api.MaxItems+1, number(1))...)} {
		for _, s := range around(s) {
			if g := rules.To(s); !isNoGraph(g) {
				t.Errorf("To has %d nodes", len(g.Nodes))
			}
		}
		if got := rules.Size(s); got != sizeOf(s) || got > api.MaxForms {
			t.Errorf("Size %d", got)
		}
	}
	if g := rules.To(vector(row(api.MaxItems, number(1))...)); len(g.Nodes) != 2 {
		t.Errorf("To has %d nodes", len(g.Nodes))
	}
}
