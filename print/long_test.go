package print_test

import (
	"strconv"
	"strings"
	"testing"

	"athanor/api"
	"athanor/print"
)

// Promise 5.1: a text has at most MaxText bytes, however the graph goes on.

// expectLength asks for a text of so many bytes, or for ErrLong, if they are too many.
func expectLength(t *testing.T, what string, g api.Graph, n int, show bool, length int) {
	t.Helper()
	mustBeGood(t, g)
	out, err := print.Print(g, n, show)
	switch {
	case length > api.MaxText && (err != api.ErrLong || out != ""):
		t.Errorf("%s of %d bytes: %.40q of %d bytes, %d", what, length, out, len(out), err)
	case length <= api.MaxText && (err != api.OK || len(out) != length):
		t.Errorf("%s of %d bytes: %d bytes, %d", what, length, len(out), err)
	}
}

// Texts of MaxText bytes, of one less, and of some more, of all kinds that may be so long.
func TestLongest(t *testing.T) {
	for _, length := range []int{api.MaxText - 1, api.MaxText, api.MaxText + 1, api.MaxText + 2, 3 * api.MaxText} {
		long := func(less int) string { return strings.Repeat("x", length-less) }
		for _, c := range []struct {
			what string
			g    api.Graph
		}{
			{"a name", nodes(symbol(long(0)))},
			{"a name of long letters", nodes(symbol("x" + strings.Repeat("\U00010000", (length-1)/4) + long(0)[:(length-1)%4]))},
			{"a procedure", nodes(proc(long(13)))},
			{"a record", nodes(record(long(3)))},
			{"a list", nodes(pair(1, 2), symbol(long(2)), null())},
			{"a list's last item", nodes(pair(2, 1), pair(3, 4), integer("1"), symbol(long(4)), null())},
			{"a list with a dot", nodes(pair(1, 2), symbol(long(6)), integer("1"))},
			{"what stands behind a dot", nodes(pair(2, 1), symbol(long(6)), integer("1"))},
			{"a vector", nodes(vector(1, 2), symbol(long(5)), integer("1"))},
			{"a vector's last item", nodes(vector(2, 1), symbol(long(5)), integer("1"))},
			{"a condition", nodes(condition(0, 1, 2), symbol(long(11)), integer("1"))},
			{"values", nodes(values(1), symbol(long(10)))},
			{"labels", nodes(vector(1, 2, 1), values(), symbol(long(20)))},
			{"a label behind it", nodes(pair(1, 0), symbol(long(11)))},
		} {
			expectLength(t, c.what, c.g, 0, false, length)
			expectLength(t, c.what, c.g, 0, true, length)
		}
	}
}

// A text as it is read is longer than as it is shown, and may be too long alone.
func TestLongerAsItIsRead(t *testing.T) {
	all := []api.Node{vector()}
	for range 63 {
		all = append(all, text(strings.Repeat("a", api.MaxItems)))
		all[0].Kids = append(all[0].Kids, len(all)-1)
	}
	rest := api.MaxText - 63*api.MaxItems - 62 - 4 // blanks and brackets, a blank
	all = append(all, text(strings.Repeat("a", rest)))
	all[0].Kids = append(all[0].Kids, len(all)-1)
	expectLength(t, "shown", nodes(all...), 0, true, api.MaxText)
	expectLength(t, "read", nodes(all...), 0, false, api.MaxText+2*64)
	all[64].Text = all[64].Text[2*64:]
	expectLength(t, "read", nodes(all...), 0, false, api.MaxText)
	all[64].Text += "a"
	expectLength(t, "read", nodes(all...), 0, false, api.MaxText+1)
	all[64].Text = strings.Repeat("\n", rest/2)
	expectLength(t, "with signs", nodes(all...), 0, false, api.MaxText+2*64-rest%2)
	all[64].Text = "λ" + strings.Repeat("a", rest-2)
	expectLength(t, "with a long letter", nodes(all...), 0, true, api.MaxText)
	all[64].Text += "a"
	expectLength(t, "with a long letter", nodes(all...), 0, true, api.MaxText+1)
}

// listOf is a list of so many items, all of them one node.
func listOf(count int, item api.Node) api.Graph {
	var g api.Graph
	for i := range count {
		g.Nodes = append(g.Nodes, pair(count, i+1))
	}
	g.Nodes = append(g.Nodes, item, null())
	g.Nodes[count-1].Kids[1] = count + 1
	return g
}

// A list of so many items of one letter has 2 bytes for each, and one more.
func TestLongLists(t *testing.T) {
	for _, count := range []int{1, 2, 1000, 32766, 32767, 32768, 32769, 500000} {
		g := listOf(count, symbol("x"))
		expectLength(t, "a list", g, 0, false, 2*count+1)
		g.Nodes[count-1].Kids[1] = 0
		expectLength(t, "a list that goes round", g, 0, false, 2*count+1+len("#0= . #0#"))
		g.Nodes[count-1].Kids[1] = count - 1
		if count > 1 {
			expectLength(t, "a list that goes round at its last", g, 0, false, 2*(count-1)+len(" . #0=(x . #0#)")+1)
		}
	}
	if got := mustPrint(t, listOf(30000, symbol("x")), 0, false); got != "(x"+strings.Repeat(" x", 29999)+")" {
		t.Errorf("a long list: %.40q", got)
	}
}

// Lists within lists: 2 bytes for each.
func TestDeepLists(t *testing.T) {
	for _, count := range []int{1, 10, 30000, 32766, 32767, 32768, 500000} {
		var g api.Graph
		for i := range count {
			g.Nodes = append(g.Nodes, pair(i+1, count))
		}
		g.Nodes = append(g.Nodes, null())
		expectLength(t, "lists within lists", g, 0, false, 2*count+2)
		for i := range count {
			g.Nodes[i] = vector(i + 1)
		}
		expectLength(t, "vectors within vectors", g, 0, false, 3*count+2)
		for i := range count {
			g.Nodes[i] = values(i + 1)
		}
		expectLength(t, "values within values", g, 0, false, 10*count+2)
		for i := range count {
			g.Nodes[i] = condition(0, i+1, count)
		}
		expectLength(t, "conditions within conditions", g, 0, false, 12*count+2)
	}
}

// What branches again and again is written once.
func TestManyWays(t *testing.T) {
	const levels = 2000
	var pairs, vectors []api.Node
	want := "(())"
	for i := range levels {
		pairs = append(pairs, pair(i+1, i+1))
		vectors = append(vectors, vector(i+1, i+1, i+1))
	}
	for i := levels - 2; i >= 0; i-- {
		label := "#" + strconv.Itoa(i)
		want = "(" + label + "=" + want + " . " + label + "#)"
	}
	expectBoth(t, nodes(append(pairs, null())...), 0, want)
	want = `"a"`
	for i := levels - 1; i >= 0; i-- {
		label := "#" + strconv.Itoa(i)
		want = "#(" + label + "=" + want + " " + label + "# " + label + "#)"
	}
	expect(t, nodes(append(vectors, text("a"))...), 0, false, want)
}

// What is too long is not written to its end: here it would take gigabytes.
func TestTooLongStops(t *testing.T) {
	all := values()
	for range 200000 {
		all.Kids = append(all.Kids, 1)
	}
	for _, kind := range []int{api.GSym, api.GProc, api.GRecord} {
		expectError(t, nodes(all, node(kind, 0, strings.Repeat("x", 60000))), 0, api.ErrLong)
	}
}
