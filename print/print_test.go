package print_test

import (
	"math/rand"
	"strings"
	"testing"

	"athanor/api"
	"athanor/print"
)

// Promise 5.1: the texts of all kinds.

func TestExamples(t *testing.T) {
	expectBoth(t, nodes(pair(1, 0), symbol("a")), 0, "#0=(a . #0#)")
	expectBoth(t, nodes(pair(2, 1), pair(3, 4), integer("1"), integer("2"), null()), 0, "(1 2)")
	expect(t, nodes(text("a")), 0, true, "a")
	expect(t, nodes(text("a")), 0, false, `"a"`)
}

// Each kind alone, as it is read and as it is shown.
func TestEachKind(t *testing.T) {
	big := "-" + strings.Repeat("7", 300)
	for _, c := range []struct {
		node        api.Node
		read, shown string
	}{
		{null(), "()", "()"},
		{truth(0), "#f", "#f"},
		{truth(1), "#t", "#t"},
		{integer("0"), "0", "0"},
		{integer("-12"), "-12", "-12"},
		{integer(big), big, big},
		{letter('x'), `#\x`, "x"},
		{letter(' '), `#\space`, " "},
		{letter('\n'), `#\newline`, "\n"},
		{letter('\t'), `#\tab`, "\t"},
		{letter('\r'), `#\return`, "\r"},
		{letter(0), `#\null`, "\x00"},
		{letter(127), `#\x7f`, "\x7f"},
		{letter('('), `#\(`, "("},
		{letter(955), `#\x3bb`, "λ"},
		{letter(0xd7ff), `#\xd7ff`, "\ud7ff"},
		{letter(0xe000), `#\xe000`, "\ue000"},
		{letter(0x10ffff), `#\x10ffff`, "\U0010ffff"},
		{text(""), `""`, ""},
		{text("a b"), `"a b"`, "a b"},
		{text("\"\\\n\t\r\x01\x7fλ"), `"\"\\\n\t\r\x1;\x7f;λ"`, "\"\\\n\t\r\x01\x7fλ"},
		{symbol("list->string"), "list->string", "list->string"},
		{symbol("a b\n\"("), "a b\n\"(", "a b\n\"("},
		{octets(""), "#u8()", "#u8()"},
		{octets("\x00"), "#u8(0)", "#u8(0)"},
		{octets("\x00\x01\x09\x0a\x63\x64\xff"), "#u8(0 1 9 10 99 100 255)", "#u8(0 1 9 10 99 100 255)"},
		{vector(), "#()", "#()"},
		{node(api.GEof, 0, ""), "#<eof>", "#<eof>"},
		{node(api.GVoid, 0, ""), "#<void>", "#<void>"},
		{node(api.GEnv, 0, ""), "#<environment>", "#<environment>"},
		{node(api.GPort, 0, ""), "#<port>", "#<port>"},
		{proc(""), "#<procedure>", "#<procedure>"},
		{proc("car"), "#<procedure car>", "#<procedure car>"},
		{proc(" λ\n"), "#<procedure  λ\n>", "#<procedure  λ\n>"},
		{record(""), "#<>", "#<>"},
		{record("point"), "#<point>", "#<point>"},
		{record("a \"b\""), "#<a \"b\">", "#<a \"b\">"},
		{values(), "#<values>", "#<values>"},
	} {
		g := nodes(c.node)
		expect(t, g, 0, false, c.read)
		expect(t, g, 0, true, c.shown)
		within := nodes(vector(1), c.node)
		expect(t, within, 0, false, "#("+c.read+")")
		expect(t, within, 0, true, "#("+c.shown+")")
	}
}

// What has kids, with some that are shown otherwise than they are read.
func TestKids(t *testing.T) {
	few := []api.Node{integer("1"), text("a b"), letter(' '), null()} // places 0 to 3
	for _, c := range []struct {
		more        []api.Node // places 4 and up; the first one is printed
		read, shown string
	}{
		{[]api.Node{pair(0, 3)}, "(1)", "(1)"},
		{[]api.Node{pair(1, 3)}, `("a b")`, "(a b)"},
		{[]api.Node{pair(3, 3)}, "(())", "(())"},
		{[]api.Node{pair(0, 2)}, `(1 . #\space)`, "(1 .  )"},
		{[]api.Node{pair(0, 1)}, `(1 . "a b")`, "(1 . a b)"},
		{[]api.Node{pair(3, 0)}, "(() . 1)", "(() . 1)"},
		{[]api.Node{pair(0, 5), pair(1, 6), pair(2, 3)}, `(1 "a b" #\space)`, "(1 a b  )"},
		{[]api.Node{pair(0, 5), pair(1, 6), pair(2, 0)}, `(1 "a b" #\space . 1)`, "(1 a b   . 1)"},
		{[]api.Node{pair(5, 6), pair(0, 3), pair(7, 3), pair(0, 0)}, "((1) (1 . 1))", "((1) (1 . 1))"},
		{[]api.Node{pair(0, 5), vector(0)}, "(1 . #(1))", "(1 . #(1))"},
		{[]api.Node{pair(0, 5), vector()}, "(1 . #())", "(1 . #())"},
		{[]api.Node{vector(0)}, "#(1)", "#(1)"},
		{[]api.Node{vector(0, 1, 2, 3)}, `#(1 "a b" #\space ())`, "#(1 a b   ())"},
		{[]api.Node{vector(5, 6), vector(0, 0), vector()}, "#(#(1 1) #())", "#(#(1 1) #())"},
		{[]api.Node{condition(0, 1, 3)}, `#<error "a b" ()>`, "#<error a b ()>"},
		{[]api.Node{condition(1, 0, 5), pair(1, 3)}, `#<error 1 ("a b")>`, "#<error 1 (a b)>"},
		{[]api.Node{condition(2, 5, 6), condition(0, 0, 0), values()}, "#<error #<error 1 1> #<values>>", "#<error #<error 1 1> #<values>>"},
		{[]api.Node{values(0)}, "#<values 1>", "#<values 1>"},
		{[]api.Node{values(0, 1, 2)}, `#<values 1 "a b" #\space>`, "#<values 1 a b  >"},
		{[]api.Node{values(5, 6), values(0), values()}, "#<values #<values 1> #<values>>", "#<values #<values 1> #<values>>"},
		{[]api.Node{pair(5, 6), proc("car"), pair(7, 8), record("point", 0, 1), node(api.GEof, 0, "")}, "(#<procedure car> #<point> . #<eof>)", "(#<procedure car> #<point> . #<eof>)"},
	} {
		g := nodes(append(append([]api.Node{}, few...), c.more...)...)
		mustBeGood(t, g)
		expect(t, g, 4, false, c.read)
		expect(t, g, 4, true, c.shown)
	}
}

// Quotes are lists like others.
func TestQuotesAreWrittenOut(t *testing.T) {
	for source, want := range map[string]string{
		"'a": "(quote a)", "`(a ,b ,@c)": "(quasiquote (a (unquote b) (unquote-splicing c)))", "(quote . a)": "(quote . a)", "(a . 'b)": "(a quote b)",
	} {
		g, n := mustRead(t, source)
		expectBoth(t, g, n, want)
	}
}

// Any node may be asked for; the others, and the roots, change nothing.
func TestAnyNode(t *testing.T) {
	g := nodes(pair(2, 1), pair(3, 4), integer("1"), text("b"), null(), vector(0, 0), vector(5))
	for n, want := range []string{`(1 "b")`, `("b")`, "1", `"b"`, "()", `#(#0=(1 "b") #0#)`, `#(#(#0=(1 "b") #0#))`} {
		expect(t, g, n, false, want)
		rooted := copied(g)
		rooted.Roots = []int{n, 0, 5, n}
		expect(t, rooted, n, false, want)
	}
}

func TestPrintByTheWords(t *testing.T) {
	r := rand.New(rand.NewSource(51))
	labels := 0
	for i := range 30000 {
		count := 1 + r.Intn(24)
		g := sampleGraph(r, count, 17)
		if i%2 == 0 {
			g = treeGraph(r, count, 17)
		}
		mustBeGood(t, g)
		n, show := r.Intn(count), r.Intn(2) == 0
		want := printWords(g, n, show)
		before := copied(g)
		got, err := print.Print(g, n, show)
		if got != want || err != api.OK {
			t.Fatalf("node %d of %v, show %v: %q, %d, not %q", n, g, show, got, err, want)
		}
		if !identical(g, before) {
			t.Fatalf("Print changed %v: %v", before, g)
		}
		if strings.Contains(got, "#1=") {
			labels++
		}
	}
	if labels < 1500 {
		t.Error("too few texts had two labels:", labels)
	}
}

// Where nodes lie, and what nothing meets, does not count.
func TestOrderDoesNotCount(t *testing.T) {
	r := rand.New(rand.NewSource(52))
	for range 5000 {
		count := 1 + r.Intn(12)
		g := sampleGraph(r, count, 17)
		n := r.Intn(count)
		h, m := shuffled(r, g, n)
		mustBeGood(t, h)
		show := r.Intn(2) == 0
		if a, b := mustPrint(t, g, n, show), mustPrint(t, h, m, show); a != b {
			t.Fatalf("%q in another order: %q", a, b)
		}
	}
}
