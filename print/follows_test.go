package print_test

import (
	"math/rand"
	"strings"
	"testing"

	"athanor/api"
	"athanor/graph"
	"athanor/print"
	"athanor/read"
)

// Promise 5.2: what is printed of data is read as just that graph.

// readBack prints a node of data and reads it, and tells whether that is the graph that hangs on the node; or that it is too deep.
func readBack(t *testing.T, g api.Graph, n int) (deep bool) {
	t.Helper()
	source := mustPrint(t, g, n, false)
	got, err, place := read.Read([]byte(source))
	if err == api.ErrDeep {
		return true
	}
	want := api.Graph{Nodes: g.Nodes, Roots: []int{n}}
	if err != api.OK || !graph.Same(got, want) || !identical(got, graph.Canon(want)) {
		t.Fatalf("node %d of %.300v: %.300q, read as %.300v, %d at %d", n, g, source, got, err, place)
	}
	if again := mustPrint(t, got, got.Roots[0], false); again != source {
		t.Fatalf("%.300q, and again: %.300q", source, again)
	}
	return false
}

func TestReadBack(t *testing.T) {
	r := rand.New(rand.NewSource(54))
	for i := range 20000 {
		count := 1 + r.Intn(14)
		g := sampleGraph(r, count, api.GBytes)
		if i%2 == 0 {
			g = treeGraph(r, count, api.GBytes)
		}
		mustBeGood(t, g)
		if readBack(t, g, r.Intn(count)) {
			t.Fatalf("too deep: %v", g)
		}
	}
}

// Large graphs, in which much is shared, and which go round.
func TestLargeReadBack(t *testing.T) {
	r := rand.New(rand.NewSource(55))
	read, deep := 0, 0
	for i := range 400 {
		count := 50 + r.Intn(400)
		g := sampleGraph(r, count, api.GBytes)
		if i%2 == 0 {
			g = treeGraph(r, count, api.GBytes)
		}
		if readBack(t, g, 0) {
			deep++
		} else {
			read++
		}
	}
	if read < 100 {
		t.Errorf("%d read, %d too deep", read, deep)
	}
}

// Sources, each with its text, which is a source again.
func TestSourcesAgain(t *testing.T) {
	for _, c := range []struct{ source, want string }{
		{"#7=(a . #7#)", "#0=(a . #0#)"},
		{"#9=(1 #8=(2) #8# . #9#)", "#0=(1 #1=(2) #1# . #0#)"},
		{"(#2=\"s\" #1=\"s\" #2# #1#)", `(#0="s" #1="s" #0# #1#)`},
		{"(#0=a #0# #1=5 #1#)", "(a a 5 5)"},
		{"(#0=() #0# . #0#)", "(() ())"},
		{"(#0=#() #0#)", "(#0=#() #0#)"},
		{"(#0=#u8() #0# #1=#u8(1) #1#)", "(#0=#u8() #0# #1=#u8(1) #1#)"},
		{"(#0=\"\" . #0#)", `(#0="" . #0#)`},
		{"#0=#(#0# #0#)", "#0=#(#0# #0#)"},
		{"(a b . #0=(c d . #0#))", "(a b . #0=(c d . #0#))"},
		{"(a . #0=(b c))", "(a b c)"},
		{"((a . #0=(b c)) . #0#)", "((a . #0=(b c)) . #0#)"},
		{"(a . (b . (c . ())))", "(a b c)"},
		{"(a . (b . (c . d)))", "(a b c . d)"},
		{"#;(x) ( #\\space #\\x41 #true \"\\x41;\\n\" )", `(#\space #\A #t "A\n")`},
		{"'#0=(a . ,#0#)", "(quote #0=(a unquote #0#))"},
	} {
		g, n := mustRead(t, c.source)
		expect(t, g, n, false, c.want)
		if readBack(t, g, n) {
			t.Errorf("%q is too deep", c.source)
		}
	}
}

// Data of many roots are printed one by one, and read as data of their own.
func TestRootsReadBack(t *testing.T) {
	g, err, _ := read.Read([]byte("(a b) #0=(c . #0#) \"d\" #u8(1 2) #(e (f . g)) 'h -5 #\\i ()"))
	if err != api.OK {
		t.Fatal(err)
	}
	var all []string
	for _, n := range g.Roots {
		all = append(all, mustPrint(t, g, n, false))
	}
	again, err, _ := read.Read([]byte(strings.Join(all, " ")))
	if err != api.OK || !graph.Same(g, again) {
		t.Errorf("%q: %d", all, err)
	}
}

// Data that are as deep as they may be are read; deeper ones are printed, but are too deep for read.
func TestDepth(t *testing.T) {
	deep := func(count int, holder func(next int) api.Node) api.Graph {
		var g api.Graph
		for i := range count {
			g.Nodes = append(g.Nodes, holder(i+1))
		}
		g.Nodes = append(g.Nodes, symbol("x"), null())
		return g
	}
	for count := 1; count < 2*api.MaxDepth; count++ {
		for _, c := range []struct {
			what   string
			holder func(next int) api.Node
			most   int
		}{
			{"vectors", func(next int) api.Node { return vector(next) }, api.MaxDepth},
			{"vectors with labels", func(next int) api.Node { return vector(next, next) }, (api.MaxDepth + 1) / 2},
			{"lists", func(next int) api.Node { return pair(next, count+1) }, api.MaxDepth},
		} {
			if got := readBack(t, deep(count, c.holder), 0); got != (count > c.most) {
				t.Errorf("%d %s within one another: too deep %v", count, c.what, got)
			}
		}
	}
}

// Lists are not deep, however long they are.
func TestLongReadBack(t *testing.T) {
	for _, count := range []int{1000, 30000} {
		g := listOf(count, symbol("x"))
		if readBack(t, g, 0) {
			t.Errorf("a list of %d is too deep", count)
		}
		g.Nodes[count-1].Kids[1] = count / 2
		if readBack(t, g, 0) {
			t.Errorf("a list of %d that goes round is too deep", count)
		}
	}
}

// A source of MaxSource bytes is a text of MaxText bytes.
func TestLongestReadBack(t *testing.T) {
	g := nodes(pair(1, 2), symbol(strings.Repeat("a", api.MaxText-2)), null())
	if out := mustPrint(t, g, 0, false); len(out) != api.MaxText || readBack(t, g, 0) {
		t.Errorf("%d bytes", len(out))
	}
	full := vector()
	for range api.MaxItems {
		full.Kids = append(full.Kids, 1)
	}
	for _, item := range []api.Node{integer("-12"), text(strings.Repeat("a", 50)), octets("\xff\x00"), vector()} {
		if g := nodes(full, item); readBack(t, g, 0) {
			t.Error("too deep")
		}
	}
	if g := nodes(octets(strings.Repeat("\xff", api.MaxItems))); readBack(t, g, 0) {
		t.Error("too deep")
	}
	if g := nodes(text(strings.Repeat("\x7f", api.MaxItems))); readBack(t, g, 0) {
		t.Error("too deep")
	}
}

// All letters and truths come back, and texts of all letters.
func TestLettersReadBack(t *testing.T) {
	for num := 0; num <= 0x10ffff; num += 1 + num/300 {
		if num >= 0xd800 && num <= 0xdfff {
			continue
		}
		g := nodes(vector(1, 2, 2, 3), letter(num), text("a"+string(rune(num))+string(rune(num))+"b"), truth(num%2))
		if readBack(t, g, 0) {
			t.Fatal("too deep")
		}
	}
}

// It follows that graphs that are not the same have other texts.
func TestTextsTellGraphs(t *testing.T) {
	r := rand.New(rand.NewSource(56))
	seen := map[string]api.Graph{}
	same := 0
	for range 20000 {
		g := sampleGraph(r, 1+r.Intn(3), api.GBytes)
		g.Roots = []int{0}
		out, err := print.Print(g, 0, false)
		if err != api.OK {
			t.Fatal(err)
		}
		if old, ok := seen[out]; ok {
			same++
			if !graph.Same(old, g) {
				t.Fatalf("%q is %v and %v", out, old, g)
			}
		}
		seen[out] = g
	}
	if same < 1000 {
		t.Error("too few texts came twice:", same)
	}
}
