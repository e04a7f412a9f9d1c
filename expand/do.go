package expand

import "athanor/api"

// doing is what a do says.
type doing struct {
	ids, first, next []api.Syn // its variables, what they begin with, and what comes next
	test             api.Syn
	result, commands []api.Syn
}

// doingOf reads a do.
func doingOf(args []api.Syn) doing {
	must(len(args) > 1)
	end := row(args[1], 1)
	d := doing{test: end[0], result: end[1:], commands: args[2:]}
	for _, s := range row(args[0], 0) {
		must(isRow(s, 2) || isRow(s, 3))
		d.ids = append(d.ids, s.Kids[0])
		d.first = append(d.first, s.Kids[1])
		d.next = append(d.next, step(s.Kids))
	}
	distinct(d.ids)
	return d
}

// step is what comes next of a do's variable: itself, if that is not told.
func step(kids []api.Syn) api.Syn {
	if len(kids) == 3 {
		return kids[2]
	}
	return kids[0]
}

// do expands a do, as a procedure that calls itself turn by turn.
func (x *expander) do(args []api.Syn, sc *scope) api.Core {
	d := doingOf(args)
	out := filled(x.open(api.CApp), x.exprs(d.first, sc)...)
	loop := x.local()
	turn := func() api.Core {
		procedure := x.open(api.CLambda)
		params, inner := x.bind(d.ids, sc)
		procedure.Params = params
		choice := filled(x.open(api.CIf), x.expr(d.test, inner), x.doResult(d, inner))
		return filled(procedure, filled(choice, x.doTurn(d, loop, inner)))
	}
	return filled(out, x.again(setting{loop, turn}))
}

// doResult is what a do tells at its end.
func (x *expander) doResult(d doing, sc *scope) api.Core {
	if len(d.result) == 0 {
		return x.void()
	}
	return x.sequence(d.result, sc)
}

// doTurn is what a do does in each turn: its commands, and itself with what comes next.
func (x *expander) doTurn(d doing, loop int, sc *scope) api.Core {
	again := func() api.Core {
		out := filled(x.open(api.CApp), x.exprs(d.next, sc)...)
		return filled(out, x.get(loop))
	}
	if len(d.commands) == 0 {
		return again()
	}
	out := filled(x.open(api.CSeq), x.exprs(d.commands, sc)...)
	return filled(out, again())
}
