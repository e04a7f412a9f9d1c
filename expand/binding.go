package expand

import "athanor/api"

// setting is a local, and how what it is set to is expanded, when all that it may name is bound.
type setting struct {
	local int
	value func() api.Core
}

// recursive is a body within which locals are set ahead: what they are set to sees them all.
func (x *expander) recursive(all []setting, body func() api.Core) api.Core {
	out := x.open(api.CApp)
	var locals []int
	for _, s := range all {
		out = filled(out, x.open(api.CUnset))
		locals = append(locals, s.local)
	}
	procedure := x.procedure(locals...)
	if len(all) == 0 {
		return filled(out, filled(procedure, body()))
	}
	steps := x.open(api.CSeq)
	for _, s := range all {
		steps = filled(steps, filled(x.store(s.local), s.value()))
	}
	return filled(out, filled(procedure, filled(steps, body())))
}

// lambda expands a lambda: its names are a list of identifiers, with one that takes the rest as its Tail, or that one alone.
func (x *expander) lambda(names api.Syn, body []api.Syn, sc *scope) api.Core {
	ids, tail := names.Kids, names.Tail
	if isIdentifier(names) {
		ids, tail = nil, []api.Syn{names}
	} else {
		must(names.Kind == api.SList)
	}
	distinct(append(ids[:len(ids):len(ids)], tail...))
	out := x.open(api.CLambda)
	out.Params, sc = x.bind(ids, sc)
	if len(tail) > 0 {
		var last []int
		last, sc = x.bind(tail, sc)
		out.Rest = last[0]
	}
	return filled(out, x.body(body, sc))
}

// let expands a let, with a name or without.
func (x *expander) let(args []api.Syn, sc *scope) api.Core {
	if isIdentifier(args[0]) {
		return x.loop(args, sc)
	}
	left, right := pairs(args[0])
	out := filled(x.open(api.CApp), x.exprs(right, sc)...)
	return filled(out, x.lambda(listOf(left...), args[1:], sc))
}

// loop expands a let with a name.
func (x *expander) loop(args []api.Syn, sc *scope) api.Core {
	must(len(args) > 1)
	left, right := pairs(args[1])
	out := filled(x.open(api.CApp), x.exprs(right, sc)...)
	locals, inner := x.bind(args[:1], sc)
	turn := setting{locals[0], func() api.Core { return x.lambda(listOf(left...), args[2:], inner) }}
	return filled(out, x.again(turn))
}

// again is a procedure that may call itself.
func (x *expander) again(turn setting) api.Core {
	return x.recursive([]setting{turn}, func() api.Core { return x.get(turn.local) })
}

// letStar expands a let*: each name is bound in what stands behind it.
func (x *expander) letStar(left, right, body []api.Syn, sc *scope) api.Core {
	out := x.open(api.CApp)
	if len(left) == 0 {
		return filled(out, x.lambda(listOf(), body, sc))
	}
	out = filled(out, x.expr(right[0], sc))
	procedure := x.open(api.CLambda)
	procedure.Params, sc = x.bind(distinct(left[:1]), sc)
	return filled(out, filled(procedure, x.letStar(left[1:], right[1:], body, sc)))
}

// letrec expands a letrec, or a letrec*.
func (x *expander) letrec(args []api.Syn, sc *scope) api.Core {
	left, right := pairs(args[0])
	locals, inner := x.bind(distinct(left), sc)
	var all []setting
	for i, local := range locals {
		all = append(all, setting{local, func() api.Core { return x.expr(right[i], inner) }})
	}
	return x.recursive(all, func() api.Core { return x.body(args[1:], inner) })
}
