package print_test

import (
	"testing"

	"athanor/api"
)

// Promise 5.1: which nodes have labels, and in which order.

// A node of each kind, met once and met twice.
func TestEachKindTwice(t *testing.T) {
	for _, c := range []struct {
		node  api.Node // with kids at place 2, if it has some
		read  string
		shown string
		label bool
	}{
		{null(), "()", "()", false},
		{truth(1), "#t", "#t", false},
		{integer("1"), "1", "1", false},
		{letter('x'), `#\x`, "x", false},
		{symbol("a"), "a", "a", false},
		{node(api.GEof, 0, ""), "#<eof>", "#<eof>", false},
		{node(api.GVoid, 0, ""), "#<void>", "#<void>", false},
		{node(api.GEnv, 0, ""), "#<environment>", "#<environment>", false},
		{node(api.GPort, 0, ""), "#<port>", "#<port>", false},
		{proc(""), "#<procedure>", "#<procedure>", false},
		{proc("car"), "#<procedure car>", "#<procedure car>", false},
		{record("point", 2, 2), "#<point>", "#<point>", false},
		{record("point"), "#<point>", "#<point>", false},
		{text("a"), `"a"`, "a", true},
		{text(""), `""`, "", true},
		{octets("\x01\x02"), "#u8(1 2)", "#u8(1 2)", true},
		{octets(""), "#u8()", "#u8()", true},
		{pair(2, 2), "(9 . 9)", "(9 . 9)", true},
		{vector(2), "#(9)", "#(9)", true},
		{vector(), "#()", "#()", true},
		{condition(0, 2, 2), "#<error 9 9>", "#<error 9 9>", true},
		{values(2), "#<values 9>", "#<values 9>", true},
		{values(), "#<values>", "#<values>", true},
	} {
		for _, show := range []bool{false, true} {
			once := c.read
			if show {
				once = c.shown
			}
			first, again := once, once
			if c.label {
				first, again = "#0="+once, "#0#"
			}
			twice := func(holder api.Node) api.Graph { return nodes(holder, c.node, integer("9")) }
			expect(t, twice(vector(1, 2)), 0, show, "#("+once+" 9)")
			expect(t, twice(vector(1, 1)), 0, show, "#("+first+" "+again+")")
			expect(t, twice(vector(1, 2, 1, 1)), 0, show, "#("+first+" 9 "+again+" "+again+")")
			expect(t, twice(condition(1, 1, 1)), 0, show, "#<error "+first+" "+again+">")
			expect(t, twice(values(1, 1)), 0, show, "#<values "+first+" "+again+">")
			expect(t, twice(record("r", 1, 1)), 0, show, "#<r>")
			if c.node.Kind != api.GNull {
				expect(t, twice(pair(1, 1)), 0, show, "("+first+" . "+again+")")
			}
		}
	}
}

// Labels where nodes are met twice and more, by ways of all sorts.
func TestLabels(t *testing.T) {
	for _, c := range []struct {
		name string
		g    api.Graph
		want string
	}{
		{"its own cdr", nodes(pair(1, 0), symbol("a")), "#0=(a . #0#)"},
		{"its own car", nodes(pair(0, 1), symbol("a")), "#0=(#0# . a)"},
		{"its own car in a list", nodes(pair(0, 1), null()), "#0=(#0#)"},
		{"its own car and cdr", nodes(pair(0, 0)), "#0=(#0# . #0#)"},
		{"a vector that holds itself", nodes(vector(0)), "#0=#(#0#)"},
		{"a vector that holds itself twice", nodes(vector(0, 0)), "#0=#(#0# #0#)"},
		{"a condition that holds itself", nodes(condition(0, 0, 1), null()), "#0=#<error #0# ()>"},
		{"values that hold themselves", nodes(values(0)), "#0=#<values #0#>"},
		{"a record that holds itself", nodes(record("r", 0)), "#<r>"},
		{"round over three", nodes(pair(3, 1), pair(4, 2), pair(5, 0), symbol("a"), symbol("b"), symbol("c")), "#0=(a b c . #0#)"},
		{"round further on", nodes(pair(3, 1), pair(4, 2), pair(5, 1), symbol("a"), symbol("b"), symbol("c")), "(a . #0=(b c . #0#))"},
		{"round at the last", nodes(pair(3, 1), pair(4, 2), pair(5, 2), symbol("a"), symbol("b"), symbol("c")), "(a b . #0=(c . #0#))"},
		{"round at the first and further on", nodes(pair(3, 1), pair(0, 2), pair(1, 0), symbol("a")), "#0=(a . #1=(#0# #1# . #0#))"},
		{"round by a car", nodes(pair(1, 2), pair(0, 2), null()), "#0=((#0#))"},
		{"a tail that is a car", nodes(pair(1, 2), pair(3, 4), pair(5, 1), symbol("x"), null(), symbol("y")), "(#0=(x) y . #0#)"},
		{"a car that is a tail", nodes(pair(1, 2), pair(3, 4), pair(4, 5), symbol("x"), pair(6, 5), null(), symbol("y")), "((x . #0=(y)) #0#)"},
		{"two tails of one", nodes(pair(1, 2), pair(3, 4), pair(5, 4), symbol("x"), pair(6, 7), symbol("y"), symbol("z"), null()), "((x . #0=(z)) y . #0#)"},
		{"car and cdr are one", nodes(pair(1, 1), pair(2, 3), symbol("x"), null()), "(#0=(x) . #0#)"},
		{"a list that is not round behind a dot", nodes(pair(1, 2), symbol("a"), pair(1, 3), text("")), `(a a . "")`},
		{"a record's kids are not looked at", nodes(vector(1, 2, 3), record("r", 2, 3, 0, 1), text("a"), pair(4, 5), integer("1"), null()), `#(#<r> "a" (1))`},
		{"a record's kids are not met through it", nodes(vector(1, 1, 2), record("r", 2, 2), vector()), "#(#<r> #<r> #())"},
		{"nor where it is printed itself", nodes(record("r", 1, 1), pair(0, 0)), "#<r>"},
		{"a node's kids count once", nodes(vector(1, 1), vector(2, 3), text("a"), vector(4), text("b")), `#(#0=#("a" #("b")) #0#)`},
		{"labels in the order of the text", nodes(vector(3, 2, 1, 2, 1, 3), text("one"), text("two"), text("three")), `#(#0="three" #1="two" #2="one" #1# #2# #0#)`},
		{"the outer one first", nodes(vector(1, 1, 2), vector(2, 3), text("a"), text("b")), `#(#0=#(#1="a" "b") #0# #1#)`},
		{"the left one with all that hangs on it first", nodes(vector(1, 4, 2, 4), vector(2, 3), text("a"), text("b"), text("c")), `#(#(#0="a" "b") #1="c" #0# #1#)`},
		{"in a list from the front", nodes(pair(4, 1), pair(3, 2), pair(3, 5), text("b"), text("a"), pair(4, 6), null()), `(#0="a" #1="b" #1# #0#)`},
		{"a pair behind a dot", nodes(vector(1, 3), pair(2, 3), text("x"), pair(2, 4), null()), `#((#0="x" . #1=(#0#)) #1#)`},
		{"itself and another one", nodes(vector(1, 0, 1), text("a")), `#0=#(#1="a" #0# #1#)`},
		{"eleven labels", nodes(vector(1, 2, 3, 4, 5, 6, 7, 8, 9, 10, 11, 11, 10), vector(1), vector(2), vector(3), vector(4), vector(5), vector(6), vector(7), vector(8), vector(9), vector(10), vector(11)),
			"#(#0=#(#0#) #1=#(#1#) #2=#(#2#) #3=#(#3#) #4=#(#4#) #5=#(#5#) #6=#(#6#) #7=#(#7#) #8=#(#8#) #9=#(#9#) #10=#(#10#) #10# #9#)"},
		{"two nodes that have the same", nodes(vector(1, 2, 1), text("a"), text("a")), `#(#0="a" "a" #0#)`},
		{"atoms of two nodes", nodes(vector(1, 2, 1), symbol("a"), symbol("a")), "#(a a a)"},
		{"a condition's two kids", nodes(condition(0, 1, 2), text("m"), pair(1, 3), null()), `#<error #0="m" (#0#)>`},
		{"values of one list", nodes(values(1, 1), pair(2, 1), symbol("a")), "#<values #0=(a . #0#) #0#>"},
	} {
		mustBeGood(t, c.g)
		if got := mustPrint(t, c.g, 0, false); got != c.want {
			t.Errorf("%s: %s, not %s", c.name, got, c.want)
		}
	}
}

// What is met counts from the node that is printed, whoever else holds it.
func TestMetFromTheNodeAlone(t *testing.T) {
	g := nodes(vector(1, 1, 2, 3), text("a"), vector(1), pair(4, 5), pair(1, 5), pair(1, 6), null())
	g.Roots = []int{1, 1, 2, 2}
	for n, want := range []string{
		`#(#0="a" #0# #(#0#) ((#0# . #1=(#0#)) . #1#))`, `"a"`, `#("a")`, `((#0="a" . #1=(#0#)) . #1#)`, `(#0="a" #0#)`, `("a")`, "()",
	} {
		expect(t, g, n, false, want)
	}
	ring := nodes(pair(3, 1), pair(4, 2), pair(5, 1), symbol("a"), symbol("b"), symbol("c"))
	expectBoth(t, ring, 1, "#0=(b c . #0#)")
	expectBoth(t, ring, 2, "#0=(c b . #0#)")
}

// Shown texts keep their labels.
func TestShownLabels(t *testing.T) {
	g := nodes(vector(1, 2, 1, 3, 2), text("a b"), text(""), letter('"'))
	expect(t, g, 0, true, `#(#0=a b #1= #0# " #1#)`)
	expect(t, g, 0, false, `#(#0="a b" #1="" #0# #\" #1#)`)
}
