package expand

import "athanor/api"

// parameterize expands a parameterize.
func (x *expander) parameterize(args []api.Syn, sc *scope) api.Core {
	must(len(args) > 0)
	left, right := pairs(args[0])
	out := x.open(api.CApp)
	all := x.open(api.CApp)
	for i := range left {
		all = filled(all, filled(x.open(api.CApp), x.expr(left[i], sc), x.expr(right[i], sc), x.prim(api.PrCons)))
	}
	return filled(out, filled(all, x.prim(api.PrList)), x.lambda(listOf(), args[1:], sc), x.prim(api.PrWithParameters))
}

// guard expands a guard: it is left by its continuation k, with what is to be done there, be it a clause's expressions or the telling of the body's values.
func (x *expander) guard(args []api.Syn, sc *scope) api.Core {
	must(len(args) > 0)
	clauses := row(args[0], 1)
	k := x.local()
	out := x.open(api.CApp)
	caught := filled(x.open(api.CApp), x.handler(k, clauses, sc), x.guarded(k, args[1:], sc), x.prim(api.PrHandler))
	return filled(out, filled(x.open(api.CApp), filled(x.procedure(k), caught), x.prim(api.PrCallCC)))
}

// handler is what is called with what was raised: at k it is looked for a clause; without one it goes back, to j, and raises it on.
func (x *expander) handler(k int, clauses []api.Syn, sc *scope) api.Core {
	out := x.open(api.CLambda)
	params, inner := x.bind(distinct(clauses[:1]), sc)
	out.Params = params
	j := x.local()
	raised := func() api.Core {
		again := filled(x.open(api.CApp), x.get(params[0]), x.prim(api.PrRaiseOn))
		return filled(x.open(api.CApp), filled(x.procedure(), again), x.get(j))
	}
	left := filled(x.open(api.CApp), filled(x.procedure(), x.cond(clauses[1:], inner, raised)), x.get(k))
	called := filled(x.open(api.CApp), filled(x.procedure(j), left), x.prim(api.PrCallCC))
	return filled(out, filled(x.open(api.CApp), called))
}

// guarded is the body, whose values are told at k.
func (x *expander) guarded(k int, body []api.Syn, sc *scope) api.Core {
	out := x.open(api.CApp)
	values := x.lambda(listOf(), body, sc)
	r := x.local()
	told := filled(x.open(api.CApp), x.prim(api.PrValues), x.get(r), x.prim(api.PrApply))
	left := x.open(api.CLambda)
	left.Rest = r
	left = filled(left, filled(x.open(api.CApp), filled(x.procedure(), told), x.get(k)))
	return filled(x.procedure(), filled(out, values, left, x.prim(api.PrCallValues)))
}
