package rules

import (
	"slices"

	"athanor/api"
)

// What a template tells.
const (
	tellsPiece = iota
	tellsVariable
	tellsList
	tellsVector
	tellsMany // its kid, as often as variables took things
)

// template is a template as it is gone through.
type template struct {
	kind     int
	piece    api.Syn // an identifier with its stamp, an atom
	variable variable
	kids     []template
	tail     []template
	depth    int        // how many ellipses are around what is multiplied
	asked    []variable // the variables in it that tell how often, one of each ellipsis of the pattern
}

// templates reads a template.
type templates struct {
	words
	variables  map[name]variable
	stamp      int
	depth      int        // how many ellipses are around what is read
	multiplied []variable // those that were met, in their order
	wrong      bool
}

// piece reads a piece of a template.
func (t *templates) piece(s api.Syn) template {
	switch s.Kind {
	case api.SId:
		return t.identifier(s)
	case api.SList:
		return t.list(s)
	case api.SVector:
		return template{kind: tellsVector, kids: t.row(s.Kids)}
	}
	return template{kind: tellsPiece, piece: s}
}

// identifier reads an identifier. An ellipsis that multiplies something does not come here.
func (t *templates) identifier(s api.Syn) template {
	if t.isDots(s) {
		t.wrong = true
	}
	v, ok := t.variables[nameOf(s)]
	if !ok {
		s.Stamps = append(slices.Clone(s.Stamps), t.stamp)
		return template{kind: tellsPiece, piece: s}
	}
	if len(v.within) > 0 {
		t.wrong = t.wrong || len(v.within) != t.depth
		t.multiplied = append(t.multiplied, v)
	}
	return template{kind: tellsVariable, variable: v}
}

// list reads a list.
func (t *templates) list(s api.Syn) template {
	if isPlainList(s) && len(s.Kids) == 2 && t.isDots(s.Kids[0]) {
		return t.plain(s.Kids[1])
	}
	out := template{kind: tellsList, kids: t.row(s.Kids)}
	for _, s := range s.Tail {
		out.tail = append(out.tail, t.piece(s))
	}
	return out
}

// plain reads a piece in which the ellipsis is an identifier as any other.
func (t *templates) plain(s api.Syn) template {
	t.multiply = false
	out := t.piece(s)
	t.multiply = true
	return out
}

// row reads kids.
func (t *templates) row(kids []api.Syn) []template {
	var out []template
	for len(kids) > 0 {
		n := t.countDots(kids[1:])
		out = append(out, t.many(kids[0], n))
		kids = kids[1+n:]
	}
	return out
}

// many reads a kid that so many ellipses stand behind.
func (t *templates) many(s api.Syn, ellipses int) template {
	if ellipses == 0 {
		return t.piece(s)
	}
	out := template{kind: tellsMany, depth: t.depth}
	met := len(t.multiplied)
	t.depth++
	out.kids = []template{t.many(s, ellipses-1)}
	t.depth--
	t.wrong = t.wrong || len(t.multiplied) == met
	if !t.wrong {
		out.asked = oneOfEach(t.multiplied[met:], t.depth)
	}
	return out
}

// oneOfEach is of those variables that have the same ellipsis so deep within the pattern the first one: they took the same number of things there.
func oneOfEach(all []variable, depth int) []variable {
	var out []variable
	met := map[int]struct{}{}
	for _, v := range all {
		if _, ok := met[v.within[depth]]; !ok {
			met[v.within[depth]] = struct{}{}
			out = append(out, v)
		}
	}
	return out
}
