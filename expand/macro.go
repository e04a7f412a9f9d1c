package expand

import (
	"athanor/api"
	"athanor/rules"
)

// made is a form in whose place what macros make is taken, as long as it is a macro's use.
func (x *expander) made(s api.Syn, sc *scope) api.Syn {
	for {
		m := x.head(s, sc)
		if m.found.Kind != api.FMacro {
			return s
		}
		s = x.use(m.found, s, sc)
	}
}

// use is what a macro makes of a form. Its stamp is how many uses there were ahead.
func (x *expander) use(macro api.Found, form api.Syn, sc *scope) api.Syn {
	stamp := len(x.homes)
	must(stamp < api.MaxMacros)
	x.homes = append(x.homes, macro.Env)
	out, err := rules.Use(macro.Macro, form, stamp, func(literal, id api.Syn) bool {
		if literal.Text != id.Text {
			return false
		}
		it := x.resolve(id, sc)
		return it.local == 0 && sameFound(x.ask(macro.Env, literal.Text), it.found)
	})
	must(err == api.OK)
	return out
}

// sameFound tells whether two names are the same thing.
func sameFound(a, b api.Found) bool { return a.Kind == b.Kind && a.N == b.N && a.Env == b.Env }
