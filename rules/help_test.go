package rules_test

import (
	"slices"
	"strconv"
	"strings"
	"testing"

	"athanor/api"
	"athanor/print"
	"athanor/read"
	"athanor/rules"
)

func id(text string, stamps ...int) api.Syn {
	return api.Syn{Kind: api.SId, Text: text, Stamps: stamps}
}

func list(kids ...api.Syn) api.Syn   { return api.Syn{Kind: api.SList, Kids: kids} }
func vector(kids ...api.Syn) api.Syn { return api.Syn{Kind: api.SVector, Kids: kids} }
func atom(n api.Node) api.Syn        { return api.Syn{Kind: api.SAtom, Atom: n} }
func number(n int) api.Syn           { return atom(api.Node{Kind: api.GInt, Text: strconv.Itoa(n)}) }
func text(s string) api.Syn          { return atom(api.Node{Kind: api.GString, Text: s}) }

// dotted is a list with a Tail.
func dotted(tail api.Syn, kids ...api.Syn) api.Syn {
	return api.Syn{Kind: api.SList, Kids: kids, Tail: []api.Syn{tail}}
}

// atoms are pieces of each kind of atom, no two of them the same.
func atoms() []api.Syn {
	return []api.Syn{
		atom(api.Node{Kind: api.GBool}), atom(api.Node{Kind: api.GBool, Num: 1}), number(0), number(1), number(-1), atom(api.Node{Kind: api.GInt, Text: "123456789012345678901234567890"}),
		atom(api.Node{Kind: api.GChar}), atom(api.Node{Kind: api.GChar, Num: 1}), atom(api.Node{Kind: api.GChar, Num: 0x10ffff}),
		text(""), text("0"), text("1"), text("a"), text("\u20ac"), atom(api.Node{Kind: api.GBytes}), atom(api.Node{Kind: api.GBytes, Text: "a"}), atom(api.Node{Kind: api.GBytes, Text: "\xff\x00"}),
	}
}

// same is what literals are held against identifiers by: text and no stamps.
func same(literal, it api.Syn) bool { return literal.Text == it.Text && len(it.Stamps) == 0 }

// row is pieces that are all the same.
func row(n int, s api.Syn) []api.Syn { return slices.Repeat([]api.Syn{s}, n) }

// write tells a piece in full: stamps stand behind a name, each behind a ~; what is no piece is shown by what it has.
func write(s api.Syn) string {
	var b strings.Builder
	writeTo(&b, s)
	return b.String()
}

func writeTo(b *strings.Builder, s api.Syn) {
	if !isPieceAlone(s) {
		b.WriteString("!" + strconv.Itoa(s.Kind) + "!" + strconv.Quote(s.Text) + "!" + strconv.Itoa(len(s.Kids)) + "!" + strconv.Itoa(len(s.Tail)) + "!" + strconv.Itoa(s.Atom.Kind) + "!")
		return
	}
	switch s.Kind {
	case api.SId:
		b.WriteString(s.Text)
		for _, n := range s.Stamps {
			b.WriteString("~" + strconv.Itoa(n))
		}
		return
	case api.SAtom:
		out, err := print.Print(api.Graph{Nodes: []api.Node{s.Atom}}, 0, false)
		if err != api.OK {
			out = "!atom!"
		}
		b.WriteString(out)
		return
	case api.SVector:
		b.WriteString("#")
	}
	b.WriteString("(")
	for i, kid := range s.Kids {
		if i > 0 {
			b.WriteString(" ")
		}
		writeTo(b, kid)
	}
	for _, tail := range s.Tail {
		b.WriteString(" . ")
		writeTo(b, tail)
	}
	b.WriteString(")")
}

// piece is a source as a piece; a name's stamps stand behind it, each behind a ~.
func piece(t *testing.T, source string) api.Syn {
	t.Helper()
	g, err, place := read.Read([]byte(source))
	if err != api.OK || len(g.Roots) != 1 {
		t.Fatalf("%s: %d at %d, %d data", source, err, place, len(g.Roots))
	}
	s, ok := fromOf(g, g.Roots[0])
	if !ok {
		t.Fatalf("%s: no piece", source)
	}
	return stamped(s)
}

// stamped takes stamps out of names.
func stamped(s api.Syn) api.Syn {
	if s.Kind == api.SId {
		parts := strings.Split(s.Text, "~")
		s.Text = parts[0]
		for _, p := range parts[1:] {
			n, _ := strconv.Atoi(p)
			s.Stamps = append(s.Stamps, n)
		}
	}
	for i := range s.Kids {
		s.Kids[i] = stamped(s.Kids[i])
	}
	for i := range s.Tail {
		s.Tail[i] = stamped(s.Tail[i])
	}
	return s
}

// macro is what Parse makes of a source.
func macro(t *testing.T, source string) api.Macro {
	t.Helper()
	m, err := rules.Parse(piece(t, source))
	if err != api.OK {
		t.Fatalf("Parse of %s: %d", source, err)
	}
	return m
}

// showMacro tells a macro in full.
func showMacro(m api.Macro) string {
	out := write(m.Ellipsis) + " " + write(list(m.Literals...))
	for _, r := range m.Rules {
		out += " " + write(r.Pattern) + " -> " + write(r.Template)
	}
	return out
}

// checkUse holds what Use tells of a macro and a form, both as sources, the stamp being 7: a piece as it is written, or an error by its name.
func checkUse(t *testing.T, m, form, want string) {
	t.Helper()
	s, err := rules.Use(macro(t, m), piece(t, form), 7, same)
	if got := answer(s, err); got != want {
		t.Errorf("%s of %s:\n%s, want\n%s", m, form, got, want)
	}
}

// answer is what Use or From told: beside an error there is nothing else.
func answer(s api.Syn, err api.Errno) string {
	if err == api.OK {
		return write(s)
	}
	if !isNothing(s) {
		return "something beside an error"
	}
	switch err {
	case api.ErrSyntax:
		return "ErrSyntax"
	case api.ErrMatch:
		return "ErrMatch"
	case api.ErrFull:
		return "ErrFull"
	}
	return "error " + strconv.Itoa(int(err))
}

func isNothing(s api.Syn) bool {
	return s.Kind == 0 && s.Text == "" && len(s.Stamps) == 0 && len(s.Kids) == 0 && len(s.Tail) == 0 && isZeroNode(s.Atom)
}

func isZeroNode(n api.Node) bool {
	return n.Kind == 0 && n.Num == 0 && n.Text == "" && len(n.Kids) == 0
}

func isNoMacro(m api.Macro) bool {
	return isNothing(m.Ellipsis) && len(m.Literals) == 0 && len(m.Rules) == 0
}

// copied shares nothing with what it copies; behind each of its lists lies something that must stay.
func copied(s api.Syn) api.Syn {
	s.Stamps = append(append([]int(nil), s.Stamps...), -77)[:len(s.Stamps)]
	s.Kids = copiedAll(s.Kids)
	s.Tail = copiedAll(s.Tail)
	s.Atom.Kids = append(append([]int(nil), s.Atom.Kids...), -77)[:len(s.Atom.Kids)]
	return s
}

func copiedAll(all []api.Syn) []api.Syn {
	var out []api.Syn
	for _, s := range all {
		out = append(out, copied(s))
	}
	return append(out, id("behind"))[:len(all)]
}

// trace tells all that hangs on a piece, and what lies behind the ends of its lists.
func trace(s api.Syn) string {
	out := strconv.Itoa(s.Kind) + strconv.Quote(s.Text) + strconv.Itoa(s.Atom.Kind) + "," + strconv.Itoa(s.Atom.Num) + strconv.Quote(s.Atom.Text)
	for _, n := range s.Stamps[:cap(s.Stamps)] {
		out += " " + strconv.Itoa(n)
	}
	for _, n := range s.Atom.Kids[:cap(s.Atom.Kids)] {
		out += " " + strconv.Itoa(n)
	}
	return out + "(" + traceAll(s.Kids) + " . " + traceAll(s.Tail) + ")"
}

func traceAll(all []api.Syn) string {
	out := ""
	for _, s := range all[:cap(all)] {
		out += " " + trace(s)
	}
	return out
}
