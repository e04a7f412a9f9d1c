package expand

import (
	"athanor/api"
	"athanor/rules"
)

// top expands a form at the outermost level.
func (x *expander) top(form api.Syn) api.Top {
	form = x.made(form, nil)
	switch x.keyword(form, nil) {
	case api.SpDefineSyntax:
		return x.syntax(row(form, 3))
	case api.SpBegin:
		return api.Top{Kind: api.TopBegin, Forms: bareAll(row(form, 1)[1:])}
	case api.SpDefineRecord:
		return api.Top{Kind: api.TopBegin, Forms: recordOf(row(form, 1)[1:]).forms()}
	case api.SpDefine:
		return api.Top{Kind: api.TopCore, Core: x.define(row(form, 1)[1:])}
	}
	return api.Top{Kind: api.TopCore, Core: x.expr(form, nil)}
}

// syntax is a macro with a name. Stamps are taken off ahead of its being parsed: they say nothing to who uses it later.
func (x *expander) syntax(kids []api.Syn) api.Top {
	must(len(kids) == 3 && isIdentifier(kids[1]) && x.keyword(kids[2], nil) == api.SpRules)
	m, err := rules.Parse(bare(kids[2]))
	must(err == api.OK)
	return api.Top{Kind: api.TopSyntax, Name: kids[1].Text, Macro: m}
}

// define is a definition at the outermost level.
func (x *expander) define(args []api.Syn) api.Core {
	d := x.definitionOf(args)
	out := x.open(api.CDefine)
	out.Name = d.id.Text
	return filled(out, d.value(nil))
}
