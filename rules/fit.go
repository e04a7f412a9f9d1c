package rules

import (
	"slices"

	"athanor/api"
)

// turn is what the variables of a pattern took at one time that something fitted: those that have the same next ellipsis around, in their order; and, by ellipsis, each time that what it multiplies fitted.
type turn struct {
	took  []api.Syn
	turns [][]turn
}

// fitting holds pieces against patterns. Variables are met in the order in which they were read, so what they take is put behind what was taken.
type fitting struct {
	same func(literal, id api.Syn) bool
}

// piece tells whether a pattern fits a piece.
func (f fitting) piece(p pattern, s api.Syn, at *turn) bool {
	switch p.kind {
	case fitsVariable:
		at.took = append(at.took, s)
		return true
	case fitsLiteral:
		return s.Kind == api.SId && f.same(p.piece, s)
	case fitsAtom:
		return s.Kind == api.SAtom && sameAtom(p.piece.Atom, s.Atom)
	case fitsList:
		return s.Kind == api.SList && f.list(p, s.Kids, s.Tail, at)
	case fitsVector:
		return s.Kind == api.SVector && f.list(p, s.Kids, nil, at)
	}
	return true
}

// sameAtom tells whether two atoms are the same node.
func sameAtom(a, b api.Node) bool { return a.Kind == b.Kind && a.Num == b.Num && a.Text == b.Text }

// list tells whether a pattern's kids and its Tail fit a list's.
func (f fitting) list(p pattern, kids, tail []api.Syn, at *turn) bool {
	over := len(kids) - len(p.kids)
	if p.many != none {
		over++
	}
	if over < 0 {
		return false
	}
	if p.many == none {
		end := len(p.kids)
		return f.each(p.kids, kids[:end], at) && f.left(p, kids[end:], tail, at)
	}
	return f.each(p.kids[:p.many], kids[:p.many], at) &&
		f.many(p.kids[p.many], kids[p.many:p.many+over], at) &&
		f.each(p.kids[p.many+1:], kids[p.many+over:], at) &&
		f.left(p, nil, tail, at)
}

// each tells whether patterns fit as many pieces one by one.
func (f fitting) each(all []pattern, kids []api.Syn, at *turn) bool {
	for i, p := range all {
		if !f.piece(p, kids[i], at) {
			return false
		}
	}
	return true
}

// many tells whether a pattern that is multiplied fits each of some pieces.
func (f fitting) many(p pattern, kids []api.Syn, at *turn) bool {
	all := make([]turn, len(kids))
	for i, kid := range kids {
		if !f.piece(p, kid, &all[i]) {
			return false
		}
	}
	at.turns = append(at.turns, all)
	return true
}

// left tells whether a pattern's Tail fits what is left; without one, whether nothing is.
func (f fitting) left(p pattern, kids, tail []api.Syn, at *turn) bool {
	if len(p.tail) == 0 {
		return len(kids) == 0 && len(tail) == 0
	}
	if len(kids) == 0 && len(tail) > 0 {
		return f.piece(p.tail[0], tail[0], at)
	}
	return f.piece(p.tail[0], api.Syn{Kind: api.SList, Kids: slices.Clip(kids), Tail: slices.Clip(tail)}, at)
}
