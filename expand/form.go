package expand

import "athanor/api"

// expr expands an expression.
func (x *expander) expr(s api.Syn, sc *scope) api.Core {
	s = x.inner(s, sc)
	switch s.Kind {
	case api.SId:
		return x.variable(s, sc)
	case api.SList:
		return x.list(row(s, 1), x.keyword(s, sc), sc)
	}
	return x.constant(s)
}

// exprs expands expressions one by one.
func (x *expander) exprs(all []api.Syn, sc *scope) []api.Core {
	var out []api.Core
	for _, s := range all {
		out = append(out, x.expr(s, sc))
	}
	return out
}

// inner goes through macros' uses, and through forms that are just one within them, in a loop: those make no core form of their own, so that nothing else would keep them from going too deep.
func (x *expander) inner(s api.Syn, sc *scope) api.Syn {
	for {
		s = x.made(s, sc)
		only, ok := x.only(s, sc)
		if !ok {
			return s
		}
		s = only
	}
}

// only is the form within a form that is nothing else; false, if it is more than that.
func (x *expander) only(s api.Syn, sc *scope) (api.Syn, bool) {
	if !isRow(s, 2) {
		return api.Syn{}, false
	}
	kid := s.Kids[1]
	switch x.keyword(s, sc) {
	case api.SpBegin, api.SpAnd, api.SpOr:
		return kid, true
	case api.SpCond:
		return x.behind(kid, api.SpElse, sc)
	case api.SpQuasi:
		return x.behind(kid, api.SpUnquote, sc)
	}
	return api.Syn{}, false
}

// behind is what stands behind a special form in a list of two; false, if it is no such list.
func (x *expander) behind(s api.Syn, special int, sc *scope) (api.Syn, bool) {
	if isRow(s, 2) && x.word(s.Kids[0], sc) == special {
		return s.Kids[1], true
	}
	return api.Syn{}, false
}

// variable expands an identifier.
func (x *expander) variable(id api.Syn, sc *scope) api.Core {
	m := x.resolve(id, sc)
	switch {
	case m.local != 0:
		return x.get(m.local)
	case m.found.Kind == api.FPrim:
		return x.prim(m.found.N)
	}
	must(m.found.Kind == api.FVar || m.found.Kind == api.FNone)
	return x.global(api.CGlobal, m.env, id)
}

// global begins a core form of a name in an environment.
func (x *expander) global(op, env int, id api.Syn) api.Core {
	out := x.open(op)
	out.Env, out.Name = env, id.Text
	return out
}

// list expands a list: a special form, or a call.
func (x *expander) list(kids []api.Syn, keyword int, sc *scope) api.Core {
	args := kids[1:]
	switch keyword {
	case none:
		return x.call(kids, sc)
	case api.SpQuote:
		must(len(args) == 1)
		return x.constant(args[0])
	case api.SpQuasi:
		must(len(args) == 1)
		return x.quasi(args[0], 1, sc)
	case api.SpLambda:
		must(len(args) > 0)
		return x.lambda(args[0], args[1:], sc)
	case api.SpSet:
		return x.set(args, sc)
	case api.SpIf:
		return x.conditional(args, sc)
	case api.SpBegin:
		return x.sequence(args, sc)
	case api.SpMark:
		must(len(args) == 3)
		return filled(x.open(api.CMark), x.exprs(args, sc)...)
	case api.SpParameterize:
		return x.parameterize(args, sc)
	case api.SpGuard:
		return x.guard(args, sc)
	}
	return x.derived(keyword, args, sc)
}

// derived expands a form that binds, or chooses, by simpler ones.
func (x *expander) derived(keyword int, args []api.Syn, sc *scope) api.Core {
	switch keyword {
	case api.SpAnd:
		return x.and(args, sc)
	case api.SpOr:
		return x.or(args, sc)
	case api.SpCond:
		return x.cond(args, sc, x.void)
	}
	must(len(args) > 0)
	switch keyword {
	case api.SpLet:
		return x.let(args, sc)
	case api.SpLetStar:
		left, right := pairs(args[0])
		return x.letStar(left, right, args[1:], sc)
	case api.SpLetrec, api.SpLetrecStar:
		return x.letrec(args, sc)
	case api.SpCase:
		return x.caseOf(args, sc)
	case api.SpWhen:
		return filled(x.open(api.CIf), x.expr(args[0], sc), x.sequence(args[1:], sc), x.void())
	case api.SpUnless:
		return filled(x.open(api.CIf), x.expr(args[0], sc), x.void(), x.sequence(args[1:], sc))
	case api.SpDo:
		return x.do(args, sc)
	}
	panic(api.ErrSyntax) // what stands elsewhere, or within other forms alone
}

// call expands a call: the operator comes last.
func (x *expander) call(kids []api.Syn, sc *scope) api.Core {
	out := filled(x.open(api.CApp), x.exprs(kids[1:], sc)...)
	return filled(out, x.expr(kids[0], sc))
}

// set expands a set!.
func (x *expander) set(args []api.Syn, sc *scope) api.Core {
	must(len(args) == 2 && isIdentifier(args[0]))
	m := x.resolve(args[0], sc)
	if m.local != 0 {
		return filled(x.store(m.local), x.expr(args[1], sc))
	}
	must(m.found.Kind == api.FVar || m.found.Kind == api.FNone || m.found.Kind == api.FPrim)
	return filled(x.global(api.CSetG, m.env, args[0]), x.expr(args[1], sc))
}

// conditional expands an if.
func (x *expander) conditional(args []api.Syn, sc *scope) api.Core {
	must(len(args) == 2 || len(args) == 3)
	out := filled(x.open(api.CIf), x.exprs(args, sc)...)
	if len(args) == 2 {
		return filled(out, x.void())
	}
	return out
}

// sequence expands expressions, one at least, that come one behind the other.
func (x *expander) sequence(all []api.Syn, sc *scope) api.Core {
	must(len(all) > 0)
	if len(all) == 1 {
		return x.expr(all[0], sc)
	}
	return filled(x.open(api.CSeq), x.exprs(all, sc)...)
}
