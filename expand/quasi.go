package expand

import "athanor/api"

// isQuasiWord tells whether a piece is one of quasiquote's words.
func (x *expander) isQuasiWord(s api.Syn, sc *scope) bool {
	switch x.word(s, sc) {
	case api.SpUnquote, api.SpSplicing, api.SpQuasi:
		return true
	}
	return false
}

// isPlain tells whether no list within a piece, or itself, begins with one of quasiquote's words. A rest of a list is a list, too, so each of a list's kids begins one.
func (x *expander) isPlain(s api.Syn, sc *scope) bool {
	for _, kid := range s.Kids {
		if s.Kind == api.SList && x.isQuasiWord(kid, sc) || !x.isPlain(kid, sc) {
			return false
		}
	}
	return len(s.Tail) == 0 || x.isPlain(s.Tail[0], sc)
}

// quasi is a piece within so many quasiquotes.
func (x *expander) quasi(d api.Syn, level int, sc *scope) api.Core {
	if x.isPlain(d, sc) {
		return x.constant(d)
	}
	if d.Kind == api.SVector {
		return filled(x.open(api.CApp), x.quasi(listOf(d.Kids...), level, sc), x.prim(api.PrListVector))
	}
	if e, ok := x.behind(d, api.SpUnquote, sc); ok {
		if level == 1 {
			return x.expr(e, sc)
		}
		return x.nested(api.SpUnquote, d, level-1, sc)
	}
	if _, ok := x.behind(d, api.SpQuasi, sc); ok {
		return x.nested(api.SpQuasi, d, level+1, sc)
	}
	return x.quasiList(d, level, sc)
}

// nested is a list that begins with one of quasiquote's words, which stays, and goes on within so many quasiquotes.
func (x *expander) nested(word int, d api.Syn, level int, sc *scope) api.Core {
	name := x.constant(named(api.Specials[word]))
	return filled(x.open(api.CApp), name, x.quasi(rest(d), level, sc), x.prim(api.PrCons))
}

// quasiList is a list that is none of quasiquote's own.
func (x *expander) quasiList(d api.Syn, level int, sc *scope) api.Core {
	out := x.open(api.CApp)
	first := d.Kids[0]
	e, splices := x.behind(first, api.SpSplicing, sc)
	if splices && level == 1 {
		return filled(out, x.expr(e, sc), x.quasi(rest(d), level, sc), x.prim(api.PrAppend))
	}
	if splices {
		out = filled(out, x.nested(api.SpSplicing, first, level-1, sc))
	} else {
		out = filled(out, x.quasi(first, level, sc))
	}
	return filled(out, x.quasi(rest(d), level, sc), x.prim(api.PrCons))
}
