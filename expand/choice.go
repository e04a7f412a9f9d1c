package expand

import "athanor/api"

// and expands an and.
func (x *expander) and(args []api.Syn, sc *scope) api.Core {
	switch len(args) {
	case 0:
		return x.truth(1)
	case 1:
		return x.expr(args[0], sc)
	}
	return filled(x.open(api.CIf), x.expr(args[0], sc), x.and(args[1:], sc), x.truth(0))
}

// or expands an or.
func (x *expander) or(args []api.Syn, sc *scope) api.Core {
	switch len(args) {
	case 0:
		return x.truth(0)
	case 1:
		return x.expr(args[0], sc)
	}
	return x.tested(args[0], sc, x.get, func() api.Core { return x.or(args[1:], sc) })
}

// tested is a choice by an expression whose value is kept in a local of its own.
func (x *expander) tested(e api.Syn, sc *scope, then func(local int) api.Core, otherwise func() api.Core) api.Core {
	out := filled(x.open(api.CApp), x.expr(e, sc))
	t := x.local()
	choice := filled(x.open(api.CIf), x.get(t), then(t), otherwise())
	return filled(out, filled(x.procedure(t), choice))
}

// cond expands a cond's clauses, and what comes where there is none left.
func (x *expander) cond(clauses []api.Syn, sc *scope, otherwise func() api.Core) api.Core {
	if len(clauses) == 0 {
		return otherwise()
	}
	kids := row(clauses[0], 1)
	others := func() api.Core { return x.cond(clauses[1:], sc, otherwise) }
	switch {
	case x.word(kids[0], sc) == api.SpElse:
		must(len(clauses) == 1)
		return x.sequence(kids[1:], sc)
	case len(kids) == 1:
		return x.tested(kids[0], sc, x.get, others)
	case len(kids) == 3 && x.word(kids[1], sc) == api.SpArrow:
		called := func(t int) api.Core { return filled(x.open(api.CApp), x.get(t), x.expr(kids[2], sc)) }
		return x.tested(kids[0], sc, called, others)
	}
	return filled(x.open(api.CIf), x.expr(kids[0], sc), x.sequence(kids[1:], sc), others())
}

// caseOf expands a case.
func (x *expander) caseOf(args []api.Syn, sc *scope) api.Core {
	out := filled(x.open(api.CApp), x.expr(args[0], sc))
	t := x.local()
	return filled(out, filled(x.procedure(t), x.cases(t, args[1:], sc)))
}

// cases expands a case's clauses, of a local.
func (x *expander) cases(t int, clauses []api.Syn, sc *scope) api.Core {
	if len(clauses) == 0 {
		return x.void()
	}
	kids := row(clauses[0], 1)
	if x.word(kids[0], sc) == api.SpElse {
		must(len(clauses) == 1)
		return x.sequence(kids[1:], sc)
	}
	return filled(x.open(api.CIf), x.oneOf(t, row(kids[0], 0)), x.sequence(kids[1:], sc), x.cases(t, clauses[1:], sc))
}

// oneOf asks whether a local is one of some data.
func (x *expander) oneOf(t int, data []api.Syn) api.Core {
	if len(data) == 0 {
		return x.truth(0)
	}
	asked := func() api.Core {
		return filled(x.open(api.CApp), x.get(t), x.constant(data[0]), x.prim(api.PrIsEqv))
	}
	return filled(x.open(api.CIf), asked(), x.truth(1), x.oneOf(t, data[1:]))
}
