package rules

import (
	"strconv"

	"athanor/api"
)

// name is all that an identifier has: two that have the same are the same.
type name struct{ text, stamps string }

// nameOf is the name of an identifier. Stamps are written, since a key holds no list.
func nameOf(id api.Syn) name {
	var stamps []byte
	for _, n := range id.Stamps {
		stamps = strconv.AppendInt(append(stamps, ' '), int64(n), 10)
	}
	return name{text: id.Text, stamps: string(stamps)}
}

// words are what a macro's identifiers are held against.
type words struct {
	ellipsis name
	multiply bool // is there an ellipsis: it is none where it is a literal, or behind one of its own in a template
	literals map[name]struct{}
}

// newWords are a macro's words.
func newWords(m api.Macro) words {
	w := words{ellipsis: nameOf(m.Ellipsis), literals: map[name]struct{}{}}
	for _, id := range m.Literals {
		w.literals[nameOf(id)] = struct{}{}
	}
	w.multiply = !w.isLiteral(w.ellipsis)
	return w
}

// isLiteral tells whether a name is a literal's.
func (w words) isLiteral(n name) bool {
	_, ok := w.literals[n]
	return ok
}

// isDots tells whether a piece is the ellipsis.
func (w words) isDots(s api.Syn) bool {
	return w.multiply && s.Kind == api.SId && s.Text == w.ellipsis.text && nameOf(s) == w.ellipsis
}

// countDots tells how many ellipses stand at the front of some pieces.
func (w words) countDots(all []api.Syn) int {
	n := 0
	for n < len(all) && w.isDots(all[n]) {
		n++
	}
	return n
}
