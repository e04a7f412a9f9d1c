package print_test

import (
	"fmt"
	"math/rand"
	"slices"
	"strconv"
	"strings"
	"testing"

	"athanor/api"
	"athanor/graph"
	"athanor/lex"
	"athanor/print"
	"athanor/read"
)

func node(kind, num int, text string, kids ...int) api.Node {
	return api.Node{Kind: kind, Num: num, Text: text, Kids: kids}
}

func null() api.Node               { return node(api.GNull, 0, "") }
func truth(num int) api.Node       { return node(api.GBool, num, "") }
func letter(num int) api.Node      { return node(api.GChar, num, "") }
func integer(text string) api.Node { return node(api.GInt, 0, text) }
func symbol(text string) api.Node  { return node(api.GSym, 0, text) }
func text(text string) api.Node    { return node(api.GString, 0, text) }
func octets(text string) api.Node  { return node(api.GBytes, 0, text) }
func pair(car, cdr int) api.Node   { return node(api.GPair, 0, "", car, cdr) }
func vector(kids ...int) api.Node  { return node(api.GVector, 0, "", kids...) }
func values(kids ...int) api.Node  { return node(api.GValues, 0, "", kids...) }
func proc(text string) api.Node    { return node(api.GProc, 0, text) }

func record(text string, kids ...int) api.Node { return node(api.GRecord, 0, text, kids...) }
func condition(num, a, b int) api.Node         { return node(api.GCond, num, "", a, b) }

// nodes is a graph without roots: Print does not look at them.
func nodes(all ...api.Node) api.Graph { return api.Graph{Nodes: all} }

// copied shares nothing with what it copies.
func copied(g api.Graph) api.Graph {
	out := api.Graph{Nodes: slices.Clone(g.Nodes), Roots: slices.Clone(g.Roots)}
	for i := range out.Nodes {
		out.Nodes[i].Kids = slices.Clone(out.Nodes[i].Kids)
	}
	return out
}

// identical tells whether two graphs are the same, place for place.
func identical(a, b api.Graph) bool {
	return slices.Equal(a.Roots, b.Roots) && slices.EqualFunc(a.Nodes, b.Nodes, func(x, y api.Node) bool {
		return x.Kind == y.Kind && x.Num == y.Num && x.Text == y.Text && slices.Equal(x.Kids, y.Kids)
	})
}

// expect asks for a node's text.
func expect(t *testing.T, g api.Graph, n int, show bool, want string) {
	t.Helper()
	if got, err := print.Print(g, n, show); got != want || err != api.OK {
		t.Errorf("node %d, show %v: %.300q, %d, not %.300q", n, show, got, err, want)
	}
}

// expectBoth asks for a node's text, which is the same as it is read and as it is shown.
func expectBoth(t *testing.T, g api.Graph, n int, want string) {
	t.Helper()
	expect(t, g, n, false, want)
	expect(t, g, n, true, want)
}

// expectError asks for an error, and for no text beside it.
func expectError(t *testing.T, g api.Graph, n int, want api.Errno) {
	t.Helper()
	for _, show := range []bool{false, true} {
		if got, err := print.Print(g, n, show); got != "" || err != want {
			t.Errorf("node %d, show %v: %.100q, %d, not %d", n, show, got, err, want)
		}
	}
}

// mustPrint is the text of a node that has one.
func mustPrint(t *testing.T, g api.Graph, n int, show bool) string {
	t.Helper()
	out, err := print.Print(g, n, show)
	if err != api.OK {
		t.Fatalf("node %d of %.300v: %d", n, g, err)
	}
	return out
}

// mustRead is the graph of a source's one datum.
func mustRead(t *testing.T, source string) (api.Graph, int) {
	t.Helper()
	g, err, place := read.Read([]byte(source))
	if err != api.OK || len(g.Roots) != 1 {
		t.Fatalf("Read(%.300q): %d at %d, %d roots", source, err, place, len(g.Roots))
	}
	return g, g.Roots[0]
}

// words is the chapter a second time, by calls within one another.
type words struct {
	g      api.Graph
	show   bool
	met    map[int]int // how often
	labels []int       // nodes, in the order in which their labels stand first
}

// printWords is Print by the chapter's words, but for what is too long.
func printWords(g api.Graph, n int, show bool) string {
	w := &words{g: g, show: show, met: map[int]int{}}
	w.meet(n)
	return w.text(n)
}

func (w *words) meet(n int) {
	w.met[n]++
	d := w.g.Nodes[n]
	if w.met[n] == 1 && slices.Contains([]int{api.GPair, api.GVector, api.GCond, api.GValues}, d.Kind) {
		for _, kid := range d.Kids {
			w.meet(kid)
		}
	}
}

func (w *words) hasLabel(n int) bool {
	may := []int{api.GPair, api.GVector, api.GString, api.GBytes, api.GCond, api.GValues}
	return w.met[n] > 1 && slices.Contains(may, w.g.Nodes[n].Kind)
}

func (w *words) text(n int) string {
	if !w.hasLabel(n) {
		return w.bare(n)
	}
	if i := slices.Index(w.labels, n); i >= 0 {
		return fmt.Sprintf("#%d#", i)
	}
	w.labels = append(w.labels, n)
	return fmt.Sprintf("#%d=", len(w.labels)-1) + w.bare(n)
}

// bare is a node's text without its label.
func (w *words) bare(n int) string {
	d := w.g.Nodes[n]
	switch d.Kind {
	case api.GPair:
		return w.pair(d)
	case api.GVector:
		return "#(" + strings.Join(w.texts(d.Kids), " ") + ")"
	case api.GCond:
		return "#<error " + strings.Join(w.texts(d.Kids), " ") + ">"
	case api.GValues:
		return strings.Join(append([]string{"#<values"}, w.texts(d.Kids)...), " ") + ">"
	case api.GRecord:
		return "#<" + d.Text + ">"
	case api.GProc:
		if d.Text == "" {
			return "#<procedure>"
		}
		return "#<procedure " + d.Text + ">"
	case api.GBytes:
		return "#u8(" + strings.Trim(fmt.Sprint([]byte(d.Text)), "[]") + ")"
	}
	return w.atom(d)
}

func (w *words) pair(d api.Node) string {
	out := "(" + w.text(d.Kids[0])
	cdr := d.Kids[1]
	for w.g.Nodes[cdr].Kind == api.GPair && !w.hasLabel(cdr) {
		out += " " + w.text(w.g.Nodes[cdr].Kids[0])
		cdr = w.g.Nodes[cdr].Kids[1]
	}
	if w.g.Nodes[cdr].Kind == api.GNull {
		return out + ")"
	}
	return out + " . " + w.text(cdr) + ")"
}

func (w *words) texts(all []int) []string {
	var out []string
	for _, n := range all {
		out = append(out, w.text(n))
	}
	return out
}

func (w *words) atom(d api.Node) string {
	if w.show && d.Kind == api.GChar {
		return string(rune(d.Num))
	}
	if w.show && d.Kind == api.GString {
		return d.Text
	}
	fixed := map[int]string{api.GNull: "()", api.GEof: "#<eof>", api.GVoid: "#<void>", api.GEnv: "#<environment>", api.GPort: "#<port>"}
	tokens := map[int]int{api.GBool: api.TkBool, api.GInt: api.TkInt, api.GChar: api.TkChar, api.GString: api.TkString, api.GSym: api.TkSym}
	if kind, ok := tokens[d.Kind]; ok {
		return lex.Spell(api.Token{Kind: kind, Num: d.Num, Text: d.Text})
	}
	return fixed[d.Kind]
}

// texts are what random texts are taken from; names those of them that are names.
var (
	texts = []string{"", "a", "a b", "\"", "\\", "\n\t\r", "\x00\x7f", "λ", "\u00a0", "(", "#0#", "; "}
	names = []string{"a", "b", "quote", "...", "+", "1+", "λ"}
)

// sampleNode is a good node of a kind in a graph of so many nodes.
func sampleNode(r *rand.Rand, kind, count int) api.Node {
	kids := func(n int) []int {
		var out []int
		for range n {
			out = append(out, r.Intn(count))
		}
		return out
	}
	switch kind {
	case api.GBool:
		return truth(r.Intn(2))
	case api.GInt:
		return integer(strconv.Itoa(r.Intn(2001) - 1000))
	case api.GChar:
		return letter([]int{0, 10, 32, 34, 97, 127, 955, 0x10ffff}[r.Intn(8)])
	case api.GString, api.GBytes, api.GProc:
		return node(kind, 0, texts[r.Intn(len(texts))])
	case api.GSym:
		return symbol(names[r.Intn(len(names))])
	case api.GPair:
		return pair(r.Intn(count), r.Intn(count))
	case api.GVector, api.GValues:
		return node(kind, 0, "", kids(r.Intn(4))...)
	case api.GRecord:
		return record(texts[r.Intn(len(texts))], kids(r.Intn(4))...)
	case api.GCond:
		return condition(r.Intn(3), r.Intn(count), r.Intn(count))
	}
	return node(kind, 0, "")
}

// sampleGraph is a good graph of so many nodes of some kinds, many of them pairs.
func sampleGraph(r *rand.Rand, count, kinds int) api.Graph {
	var g api.Graph
	for range count {
		kind := api.GPair
		if r.Intn(3) > 0 {
			kind = 1 + r.Intn(kinds)
		}
		g.Nodes = append(g.Nodes, sampleNode(r, kind, count))
	}
	for range r.Intn(3) {
		g.Roots = append(g.Roots, r.Intn(count))
	}
	return g
}

// treeGraph is a good graph in which a node's kids mostly lie behind it, so that few go round, and the last ones have none.
func treeGraph(r *rand.Rand, count, kinds int) api.Graph {
	g := sampleGraph(r, count, kinds)
	for i := range g.Nodes {
		for k := range g.Nodes[i].Kids {
			if r.Intn(20) > 0 {
				g.Nodes[i].Kids[k] = min(i+1+r.Intn(4), count-1)
			}
		}
	}
	g.Nodes[count-1] = null()
	return g
}

// shuffled is the same graph with its nodes in another order, and nodes between them that nothing meets; and where a node is now.
func shuffled(r *rand.Rand, g api.Graph, n int) (api.Graph, int) {
	g = copied(g)
	for range r.Intn(4) {
		g.Nodes = append(g.Nodes, sampleNode(r, 1+r.Intn(17), len(g.Nodes)))
	}
	order := r.Perm(len(g.Nodes))
	out := api.Graph{Nodes: make([]api.Node, len(g.Nodes))}
	for i, d := range g.Nodes {
		for k := range d.Kids {
			d.Kids[k] = order[d.Kids[k]]
		}
		out.Nodes[order[i]] = d
	}
	return out, order[n]
}

func mustBeGood(t *testing.T, g api.Graph) {
	t.Helper()
	if !graph.Good(g) {
		t.Fatalf("not good: %v", g)
	}
}
