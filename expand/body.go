package expand

import "athanor/api"

// definition is a name, and how what it is defined as is expanded where all names are bound.
type definition struct {
	id    api.Syn
	value func(sc *scope) api.Core
}

// definitionOf reads a define.
func (x *expander) definitionOf(args []api.Syn) definition {
	must(len(args) > 1)
	if isIdentifier(args[0]) {
		must(len(args) == 2)
		return definition{args[0], func(sc *scope) api.Core { return x.expr(args[1], sc) }}
	}
	head := args[0]
	must(head.Kind == api.SList && len(head.Kids) > 0 && isIdentifier(head.Kids[0]))
	return definition{head.Kids[0], func(sc *scope) api.Core { return x.lambda(rest(head), args[1:], sc) }}
}

// body reads a body, form by form.
type body struct {
	*expander
	waiting [][]api.Syn // rows of forms, those that come next on top
	scope   *scope      // with what was defined so far
	ids     []api.Syn
	all     []setting
}

// body expands a body.
func (x *expander) body(forms []api.Syn, sc *scope) api.Core {
	b := &body{expander: x, waiting: [][]api.Syn{forms}, scope: sc}
	expressions := b.expressions()
	inner := func() api.Core { return x.sequence(expressions, b.scope) }
	if len(b.all) == 0 {
		return inner()
	}
	return x.recursive(b.all, inner)
}

// expressions reads the definitions in front, and tells what stands behind them.
func (b *body) expressions() []api.Syn {
	for {
		s := b.made(b.next(), b.scope)
		switch b.keyword(s, b.scope) {
		case api.SpBegin:
			b.waiting = append(b.waiting, row(s, 1)[1:])
		case api.SpDefine:
			b.defined(b.definitionOf(row(s, 1)[1:]))
		case api.SpDefineRecord:
			for _, p := range recordOf(row(s, 1)[1:]).parts() {
				b.defined(definition{p.id, func(sc *scope) api.Core { return b.part(p, sc) }})
			}
		default:
			return append([]api.Syn{s}, b.left()...)
		}
	}
}

// next is the next form.
func (b *body) next() api.Syn {
	for {
		last := len(b.waiting) - 1
		must(last >= 0)
		forms := b.waiting[last]
		if len(forms) > 0 {
			b.waiting[last] = forms[1:]
			return forms[0]
		}
		b.waiting = b.waiting[:last]
	}
}

// left are the forms that were not read.
func (b *body) left() []api.Syn {
	var out []api.Syn
	for i := len(b.waiting) - 1; i >= 0; i-- {
		out = append(out, b.waiting[i]...)
	}
	return out
}

// defined binds a name from here on. What it is defined as is expanded later, when all names are bound.
func (b *body) defined(d definition) {
	must(!has(b.ids, d.id))
	b.ids = append(b.ids, d.id)
	var locals []int
	locals, b.scope = b.bind([]api.Syn{d.id}, b.scope)
	b.all = append(b.all, setting{locals[0], func() api.Core { return d.value(b.scope) }})
}
