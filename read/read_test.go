package read

import (
	"math/rand"
	"slices"
	"strings"
	"testing"

	"athanor/api"
	"athanor/graph"
)

func node(kind, num int, text string, kids ...int) api.Node {
	return api.Node{Kind: kind, Num: num, Text: text, Kids: kids}
}

func name(text string) api.Node     { return node(api.GSym, 0, text) }
func number(text string) api.Node   { return node(api.GInt, 0, text) }
func pairOf(car, cdr int) api.Node  { return node(api.GPair, 0, "", car, cdr) }
func vectorOf(kids ...int) api.Node { return node(api.GVector, 0, "", kids...) }
func bytesOf(text string) api.Node  { return node(api.GBytes, 0, text) }
func nullNode() api.Node            { return node(api.GNull, 0, "") }

// expectNodes asks for a graph, node by node.
func expectNodes(t *testing.T, source string, roots []int, nodes ...api.Node) {
	t.Helper()
	if g := mustRead(t, source); !identical(g, api.Graph{Nodes: nodes, Roots: roots}) {
		t.Errorf("Read(%q): %v", source, g)
	}
}

func TestReadAtoms(t *testing.T) {
	for source, want := range map[string]api.Node{
		"12": number("12"), "-0": number("0"), "+007": number("7"), "123456789012345678901234567890": number("123456789012345678901234567890"),
		"#t": node(api.GBool, 1, ""), "#f": node(api.GBool, 0, ""), "#true": node(api.GBool, 1, ""), "#false": node(api.GBool, 0, ""),
		`#\a`: node(api.GChar, 97, ""), `#\null`: node(api.GChar, 0, ""), `#\x10FFFF`: node(api.GChar, 0x10FFFF, ""), `#\(`: node(api.GChar, 40, ""),
		`""`: node(api.GString, 0, ""), `"a\nλ"`: node(api.GString, 0, "a\nλ"), `"\x0;"`: node(api.GString, 0, "\x00"),
		"a": name("a"), "...": name("..."), "λ": name("λ"), "+": name("+"), "1a": name("1a"), "quote": name("quote"),
		"()": nullNode(), "( )": nullNode(), "#()": vectorOf(), "#u8()": bytesOf(""),
	} {
		expectNodes(t, source, []int{0}, want)
		expectNodes(t, " ;r\n"+source+" #|r|#\n", []int{0}, want)
	}
}

func TestReadLists(t *testing.T) {
	expectNodes(t, "(a)", []int{0}, pairOf(1, 2), name("a"), nullNode())
	expectNodes(t, "(a b)", []int{0}, pairOf(1, 2), name("a"), pairOf(3, 4), name("b"), nullNode())
	expectNodes(t, "(a . b)", []int{0}, pairOf(1, 2), name("a"), name("b"))
	expectNodes(t, "(a b . c)", []int{0}, pairOf(1, 2), name("a"), pairOf(3, 4), name("b"), name("c"))
	expectNodes(t, "(a . (b . ()))", []int{0}, pairOf(1, 2), name("a"), pairOf(3, 4), name("b"), nullNode())
	expectNodes(t, "(())", []int{0}, pairOf(1, 1), nullNode())
	expectNodes(t, "((a) a)", []int{0}, pairOf(1, 4), pairOf(2, 3), name("a"), nullNode(), pairOf(2, 3))
	expectNodes(t, "(1 . #;2 3)", []int{0}, pairOf(1, 2), number("1"), number("3"))
	expectSame(t, "(a b c)", "(a . (b . (c . ())))")
	expectSame(t, "(a b . c)", "(a . (b . c))")
}

func TestReadVectorsAndBytes(t *testing.T) {
	expectNodes(t, `#(a "x" a "x")`, []int{0}, vectorOf(1, 2, 1, 3), name("a"), node(api.GString, 0, "x"), node(api.GString, 0, "x"))
	expectNodes(t, "#(#() (1) #u8(1))", []int{0}, vectorOf(1, 2, 5), vectorOf(), pairOf(3, 4), number("1"), nullNode(), bytesOf("\x01"))
	expectNodes(t, "#u8(0 1 127 128 255)", []int{0}, bytesOf("\x00\x01\x7f\x80\xff"))
	expectNodes(t, "#u8(-0 +5 007 00255)", []int{0}, bytesOf("\x00\x05\x07\xff"))
}

func TestReadQuotes(t *testing.T) {
	for sign, word := range map[string]string{"'": "quote", "`": "quasiquote", ",": "unquote", ",@": "unquote-splicing"} {
		expectNodes(t, sign+"a", []int{0}, pairOf(1, 2), name(word), pairOf(3, 4), name("a"), nullNode())
		expectNodes(t, sign+" (b)", []int{0}, pairOf(1, 2), name(word), pairOf(3, 5), pairOf(4, 5), name("b"), nullNode())
		expectSame(t, "("+sign+"a . "+sign+"b)", "(("+word+" a) . ("+word+" b))")
		expectSame(t, "#("+sign+"#u8(1) "+sign+sign+"()) "+sign+"x", "#(("+word+" #u8(1)) ("+word+" ("+word+" ()))) ("+word+" x)")
	}
	expectSame(t, "`(a ,b ,@c 'd)", "(quasiquote (a (unquote b) (unquote-splicing c) (quote d)))")
	expectSame(t, "(a . 'b)", "(a quote b)")
	expectSame(t, ", @a", "(unquote @a)")
}

func TestReadLabels(t *testing.T) {
	expectNodes(t, "#0=(a . #0#)", []int{0}, pairOf(1, 0), name("a"))
	expectNodes(t, "#0=(#0# . #0#)", []int{0}, pairOf(0, 0))
	expectNodes(t, "#0=(#0#)", []int{0}, pairOf(0, 1), nullNode())
	expectNodes(t, "#0=#(#0# #0#)", []int{0}, vectorOf(0, 0))
	expectNodes(t, "#0='#0#", []int{0}, pairOf(1, 2), name("quote"), pairOf(0, 3), nullNode())
	expectNodes(t, `(#0="a" #0# "a")`, []int{0}, pairOf(1, 2), node(api.GString, 0, "a"), pairOf(1, 3), pairOf(4, 5), node(api.GString, 0, "a"), nullNode())
	expectNodes(t, "(#0=#u8(1) #0# . #0#)", []int{0}, pairOf(1, 2), bytesOf("\x01"), pairOf(1, 1))
	expectNodes(t, "(#1=() . #1#)", []int{0}, pairOf(1, 1), nullNode())
	expectNodes(t, "(#0=(b) . #0#)", []int{0}, pairOf(1, 1), pairOf(2, 3), name("b"), nullNode())
	expectNodes(t, "#0=(a #1=(b #0# . #1#) . #1#)", []int{0}, pairOf(1, 2), name("a"), pairOf(3, 3), pairOf(4, 5), name("b"), pairOf(0, 3))
	expectNodes(t, "#999999999=(#999999999#)", []int{0}, pairOf(0, 1), nullNode())
	expectNodes(t, "#007=(#7#)", []int{0}, pairOf(0, 1), nullNode())
}

// A label of a label is the same thing, whatever comes first.
func TestReadLabelsOfLabels(t *testing.T) {
	expectNodes(t, "(#0=#1=(a) #0# #1#)", []int{0}, pairOf(1, 4), pairOf(2, 3), name("a"), nullNode(), pairOf(1, 5), pairOf(1, 3))
	expectNodes(t, "#(#0=() #1=#0# #2=#1# #2#)", []int{0}, vectorOf(1, 1, 1, 1), nullNode())
	expectNodes(t, "#(#0=#() #1=#0# #2=#1# #2# #0# #())", []int{0}, vectorOf(1, 1, 1, 1, 1, 2), vectorOf(), vectorOf())
	expectNodes(t, "#0=#1=#(#0# #1# #2=#0# #3=#2# #3#)", []int{0}, vectorOf(0, 0, 0, 0, 0))
	expectNodes(t, "#0=#(#1=#0# #2=#(#3=#1# #3#) #2# #3#)", []int{0}, vectorOf(0, 1, 1, 0), vectorOf(0, 0))
}

// Labels that nothing asks for change nothing.
func TestReadLabelsUnasked(t *testing.T) {
	for labelled, plain := range map[string]string{
		"#0=a": "a", "#0=#1=#2=a": "a", "(#0=a . #1=b)": "(a . b)", "#0=(#1=(#2=a) #3=#(#4=b))": "((a) #(b))", "'#0=a": "'a", "#0='a": "'a", "#3=#u8(1 2)": "#u8(1 2)", "#1=()": "()", `#5="x" "x"`: `"x" "x"`,
	} {
		expectSame(t, labelled, plain)
	}
}

// The same label in two data, one behind the other, is two labels.
func TestReadLabelsOfTwoData(t *testing.T) {
	expectNodes(t, "#0=(a . #0#) #0=(b . #0#)", []int{0, 2}, pairOf(1, 0), name("a"), pairOf(3, 2), name("b"))
	expectSame(t, "#0=a #0=b #1=c '#1=d", "a b c 'd")
	expectSame(t, "#0=a #;#0=b #0=c", "a c")
	expectSame(t, "#;#0=a #0=b", "b")
	expectSame(t, "#;#;#0=a #1=(#1#) #1=b #0=c", "b c")
	for source, place := range map[string]int{"#0=a #0#": 5, "(#0=a #0#) (#0#)": 12, "#0=a '#0#": 6, "#0=a #1=#0#": 8, "#;#0=a #0#": 7, "#;#0=a '#0#": 8, "a #;#0=b #0#": 9, "#0=a #;#0# b": 7} {
		if g, err, p := Read([]byte(source)); err != api.ErrLabel || p != place || len(g.Nodes)+len(g.Roots) != 0 {
			t.Errorf("Read(%q): %v, %d at %d", source, g, err, p)
		}
	}
}

// What is skipped counts with the datum that it stands in.
func TestReadLabelsOfSkipped(t *testing.T) {
	expectSame(t, "(#;#0=(a) #0# #0#)", "(#0=(a) #0#)")
	expectSame(t, "#0=(a #;#0# b #;#1=c #1#)", "(a b c)")
	expectSame(t, "#0=(#;(#1=#0#) a . #1#)", "#0=(a . #0#)")
	expectSame(t, "(#0=#;#1=#0# (x) #1#)", "(#0=(x) #0#)")
	expectSame(t, "#0=#;#0# (a)", "(a)")
	expectSame(t, "'#;#0=(a) #0#", "'(a)")
	expectSame(t, "#u8(1 #;#0=(#0#) 2 #;#1=x)", "#u8(1 2)")
	expectSame(t, "(#u8(1 #;#0=(y)) #0#)", "(#u8(1) (y))")
	expectFault(t, "(#;#0=a #0=b)", api.ErrLabel, 8)
	expectFault(t, "(#0=a #;#0=b)", api.ErrLabel, 8)
	expectFault(t, "(#0=a #;(#1#) b)", api.ErrLabel, 9)
	expectFault(t, "(#;#0# #0=a)", api.ErrLabel, 3)
}

// What is skipped may stand wherever a datum or a closing may.
func TestReadSkips(t *testing.T) {
	for source, plain := range map[string]string{
		"#;a": "", "#;a b": "b", "a #;b": "a", "a #;b c": "a c", "#;(a . b) c": "c", "#; a b": "b", "#;'a b": "b", "#;#0=a b": "b",
		"(a #;b)": "(a)", "(#;a)": "()", "(#;a b)": "(b)", "(a #;b c)": "(a c)", "(a #;b . c)": "(a . c)", "(a . #;b c)": "(a . c)", "(a . b #;c)": "(a . b)", "(a . b #;c #;d)": "(a . b)", "(a . #;b #;c d #;e)": "(a . d)",
		"#(#;a)": "#()", "#(a #;b)": "#(a)", "#(#;a b)": "#(b)", "#u8(#;1 2)": "#u8(2)", "#u8(1 #;a)": "#u8(1)", "#u8(#;256 1 #;(x y) 2 #;#u8(9))": "#u8(1 2)", "#u8(#;a)": "#u8()",
		"'#;a b": "'b", "#0=#;a b": "b", "#;#;a b c": "c", "#;#;a b": "", "#;#;#;a b c d": "d", "(#;#;a b c)": "(c)", "(#;#;a b)": "()", "(#;(#;a) b)": "(b)", "#u8(#;#;1 2 3)": "#u8(3)", "#;#u8(#;x 1) a": "a",
		"#;;a\n b c": "c", "#;#|a|# b c": "c",
	} {
		expectSame(t, source, plain)
	}
}

func TestReadNothing(t *testing.T) {
	for _, source := range []string{"", " ", "\n", ";a", "; (\n", "#| ( |#", "#;a", "#;() #;#;a b"} {
		if g := mustRead(t, source); len(g.Nodes)+len(g.Roots) != 0 {
			t.Errorf("Read(%q): %v", source, g)
		}
	}
	if g, err, place := Read(nil); len(g.Nodes)+len(g.Roots) != 0 || err != api.OK || place != 0 {
		t.Error("nil:", g, err, place)
	}
}

// Roots are the data, one by one; atoms that have the same are one node.
func TestReadRoots(t *testing.T) {
	expectNodes(t, "a b a", []int{0, 1, 0}, name("a"), name("b"))
	expectNodes(t, "(a) a () (a)", []int{0, 1, 2, 3}, pairOf(1, 2), name("a"), nullNode(), pairOf(1, 2))
	expectNodes(t, `"a" "a" #u8() #u8() #() #()`, []int{0, 1, 2, 3, 4, 5}, node(api.GString, 0, "a"), node(api.GString, 0, "a"), bytesOf(""), bytesOf(""), vectorOf(), vectorOf())
	expectNodes(t, `1 "1" #\1 #t 1 #\x1`, []int{0, 1, 2, 3, 0, 4}, number("1"), node(api.GString, 0, "1"), node(api.GChar, 49, ""), node(api.GBool, 1, ""), node(api.GChar, 1, ""))
	expectNodes(t, "(a '#(1 \"x\") . b) #u8(1 2)", []int{0, 11},
		pairOf(1, 2), name("a"), pairOf(3, 10), pairOf(4, 5), name("quote"), pairOf(6, 9), vectorOf(7, 8), number("1"), node(api.GString, 0, "x"), nullNode(), name("b"), bytesOf("\x01\x02"))
}

// All short sources of telling tokens, as the oracle has them.
func TestReadShortSources(t *testing.T) {
	expectAll(t, []string{"(", ")", "#(", "#u8(", "'", ".", "#;", "#0=", "#0#", "#1=", "#1#", "a", "1", "256"}, 4)
	expectAll(t, []string{"(", ")", ".", "#;", "#0=", "#0#", "a"}, 6)
	expectAll(t, []string{"#0=", "#1=", "#0#", "#1#", "#;", "(", ")"}, 6)
	expectAll(t, []string{"#u8(", ")", "#;", "7", ".", "#0#", "#0="}, 5)
}

// expectAll holds Read against the oracle on all rows of at most so many signs.
func expectAll(t *testing.T, signs []string, most int) {
	t.Helper()
	var grow func(source string, left int)
	grow = func(source string, left int) {
		expectRead(t, source)
		if left == 0 {
			return
		}
		for _, s := range signs {
			grow(source+s+" ", left-1)
		}
	}
	grow("", most)
}

func TestReadRandomSources(t *testing.T) {
	r := rand.New(rand.NewSource(1))
	fine := 0
	for range 60000 {
		source := randomSource(r, 14)
		expectRead(t, source)
		if _, err, _ := Read([]byte(source)); err == api.OK {
			fine++
		}
	}
	if fine < 1000 {
		t.Error("too few sources were fine:", fine)
	}
}

// Sources that grew fine, and the same with a token taken away, doubled, or put elsewhere.
func TestReadGrownSources(t *testing.T) {
	r := rand.New(rand.NewSource(2))
	for range 6000 {
		source, _ := grow(r, r.Intn(3))
		expectRead(t, source)
		tokens := strings.Fields(source)
		if len(tokens) == 0 {
			continue
		}
		for range 3 {
			i, j := r.Intn(len(tokens)), r.Intn(len(tokens))
			expectRead(t, strings.Join(slices.Delete(slices.Clone(tokens), i, i+1), " "))
			expectRead(t, strings.Join(slices.Insert(slices.Clone(tokens), j, tokens[i]), " "))
			expectRead(t, strings.Join(slices.Insert(slices.Clone(tokens), j, signs[r.Intn(len(signs))]), " "))
		}
	}
}

// No bytes make it panic, and what it answers is a good graph in its one order.
func TestReadRandomBytes(t *testing.T) {
	r := rand.New(rand.NewSource(3))
	const letters = "()#;'`,@.=0123u8ab\"\\ \n|\xce\xbb\xff"
	for range 60000 {
		source := make([]byte, r.Intn(12))
		for i := range source {
			source[i] = letters[r.Intn(len(letters))]
		}
		kept := slices.Clone(source)
		g, err, _ := Read(source)
		if !identical(g, graph.Canon(g)) {
			t.Fatalf("Read(%q): %v, which Canon has otherwise", source, g)
		}
		for at := -1; at <= len(source)+1; at++ {
			if h, _, ferr, _ := First(source, at); !identical(h, graph.Canon(h)) || len(h.Roots) > 1 || err == api.OK && at == 0 && ferr != api.OK {
				t.Fatalf("First(%q, %d): %v, %d", source, at, h, ferr)
			}
		}
		if !slices.Equal(source, kept) {
			t.Fatalf("%q became %q", kept, source)
		}
		expectRead(t, string(source))
	}
}

// An answer is new memory: what is done to it is not seen in another.
func TestReadAnswersNewMemory(t *testing.T) {
	source := []byte("#0=(a #(b #0#) (c)) (d) e")
	g := mustRead(t, string(source))
	for _, list := range append([][]int{g.Roots}, kidsOf(g)...) {
		for i := range list {
			list[i] = -5
		}
		_ = append(list, -6)
	}
	if h, _ := readWords(string(source)); !identical(mustRead(t, string(source)), h) {
		t.Error("an answer was changed by way of another")
	}
	again := mustRead(t, string(source))
	lists := append([][]int{again.Roots}, kidsOf(again)...)
	for i := range lists {
		kept := kidsOf(again)
		roots := slices.Clone(again.Roots)
		for k := range kept {
			kept[k] = slices.Clone(kept[k])
		}
		_ = append(lists[i], -6)
		for k, n := range again.Nodes {
			if !slices.Equal(n.Kids, kept[k]) || !slices.Equal(again.Roots, roots) {
				t.Fatal("two lists of an answer share memory")
			}
		}
	}
}

func kidsOf(g api.Graph) [][]int {
	var all [][]int
	for _, n := range g.Nodes {
		all = append(all, n.Kids)
	}
	return all
}
