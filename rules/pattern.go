package rules

import (
	"slices"

	"athanor/api"
)

// What a pattern fits.
const (
	fitsAll = iota
	fitsVariable
	fitsLiteral
	fitsAtom
	fitsList
	fitsVector
)

// pattern is a pattern as it is gone through.
type pattern struct {
	kind  int
	piece api.Syn   // of a literal, an atom
	kids  []pattern // of a list, a vector, without the ellipsis
	many  int       // the place of the kid that is multiplied, or none
	tail  []pattern // of a list
}

// dots is an ellipsis of a pattern. Each has a number, from 1 on; 0 stands for none, which is the pattern as a whole.
type dots struct {
	around    int // the next ellipsis around it
	place     int // which one it is of those of which that is the next one around
	variables int // how many variables have it as the next one around
	ellipses  int // how many ellipses have
}

// variable is a variable of a pattern.
type variable struct {
	within []int // the ellipses that multiply it, the outermost first
	place  int   // which one it is of those that have the same next ellipsis around
}

// patterns reads a pattern.
type patterns struct {
	words
	variables map[name]variable
	dots      []dots
	within    []int // the ellipses around what is read
	wrong     bool
}

// newPatterns has read nothing.
func newPatterns(w words) *patterns {
	return &patterns{words: w, variables: map[name]variable{}, dots: make([]dots, 1)}
}

// piece reads a piece of a pattern.
func (p *patterns) piece(s api.Syn) pattern {
	switch s.Kind {
	case api.SId:
		return p.identifier(s)
	case api.SList:
		return p.row(s.Kids, s.Tail)
	case api.SVector:
		out := p.row(s.Kids, nil)
		out.kind = fitsVector
		return out
	}
	return pattern{kind: fitsAtom, piece: s}
}

// identifier reads an identifier. An ellipsis that multiplies something does not come here.
func (p *patterns) identifier(s api.Syn) pattern {
	n := nameOf(s)
	switch {
	case p.isLiteral(n):
		return pattern{kind: fitsLiteral, piece: s}
	case p.isDots(s):
		p.wrong = true
	case n != name{text: "_"}:
		p.bind(n)
		return pattern{kind: fitsVariable}
	}
	return pattern{kind: fitsAll}
}

// bind lets a name be a variable.
func (p *patterns) bind(n name) {
	if _, ok := p.variables[n]; ok {
		p.wrong = true
	}
	next := &p.dots[p.around()]
	p.variables[n] = variable{within: p.within, place: next.variables}
	next.variables++
}

// around is the number of the next ellipsis around what is read.
func (p *patterns) around() int {
	if len(p.within) == 0 {
		return 0
	}
	return p.within[len(p.within)-1]
}

// row reads kids and a Tail as a list's.
func (p *patterns) row(kids, tail []api.Syn) pattern {
	out := pattern{kind: fitsList, many: none}
	for len(kids) > 0 {
		if p.countDots(kids[1:]) == 0 {
			out.kids = append(out.kids, p.piece(kids[0]))
			kids = kids[1:]
			continue
		}
		if out.many != none {
			p.wrong = true
		}
		out.many = len(out.kids)
		out.kids = append(out.kids, p.multiplied(kids[0]))
		kids = kids[2:]
	}
	for _, s := range tail {
		out.tail = append(out.tail, p.piece(s))
	}
	return out
}

// multiplied reads a kid that an ellipsis stands behind.
func (p *patterns) multiplied(s api.Syn) pattern {
	outer := p.within
	next := &p.dots[p.around()]
	opened := dots{around: p.around(), place: next.ellipses}
	next.ellipses++
	p.within = append(slices.Clone(outer), len(p.dots))
	p.dots = append(p.dots, opened)
	out := p.piece(s)
	p.within = outer
	return out
}
