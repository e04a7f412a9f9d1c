package expand

import (
	"slices"

	"athanor/api"
)

// question is what look is asked.
type question struct {
	env  int
	name string
}

// scope is the innermost binding, and the scope around it; nil: nothing is bound.
type scope struct {
	id    api.Syn
	local int
	outer *scope
}

// meaning is what an identifier resolves to: a local, or what is found of its text in an environment.
type meaning struct {
	local int // 0: none
	env   int
	found api.Found
}

// sameId tells whether two identifiers are the same.
func sameId(a, b api.Syn) bool { return a.Text == b.Text && slices.Equal(a.Stamps, b.Stamps) }

// ask tells what a name is in an environment. What look told is kept: it may have much to do for an answer.
func (x *expander) ask(env int, name string) api.Found {
	q := question{env: env, name: name}
	f, ok := x.told[q]
	if !ok {
		f = x.look(env, name)
		x.told[q] = f
	}
	return f
}

// resolve tells what an identifier is in a scope.
func (x *expander) resolve(id api.Syn, sc *scope) meaning {
	for b := sc; b != nil; b = b.outer {
		if sameId(b.id, id) {
			return meaning{local: b.local}
		}
	}
	env := x.home(id.Stamps)
	return meaning{env: env, found: x.ask(env, id.Text)}
}

// home is the environment in which an identifier with such stamps is looked for: as one stamp after the other is taken off, the last one first, that of the macro which brought it in. (A stamp that no use had was in a macro ahead of its use, and says nothing.)
func (x *expander) home(stamps []int) int {
	env := 0
	for _, stamp := range slices.Backward(stamps) {
		if 0 <= stamp && stamp < len(x.homes) {
			env = x.homes[stamp]
		}
	}
	return env
}

// head is what the first kid of a list resolves to; of anything else, nothing.
func (x *expander) head(s api.Syn, sc *scope) meaning {
	if s.Kind != api.SList || len(s.Kids) == 0 || !isIdentifier(s.Kids[0]) {
		return meaning{}
	}
	return x.resolve(s.Kids[0], sc)
}

// none stands for a special form that there is none of.
const none = -1

// special is the special form that something is, or none.
func (m meaning) special() int {
	if m.found.Kind == api.FSpecial {
		return m.found.N
	}
	return none
}

// keyword is the special form that the first kid of a list resolves to, or none.
func (x *expander) keyword(s api.Syn, sc *scope) int { return x.head(s, sc).special() }

// word is the special form that a piece resolves to, or none.
func (x *expander) word(s api.Syn, sc *scope) int {
	if !isIdentifier(s) {
		return none
	}
	return x.resolve(s, sc).special()
}

// bind lets identifiers be locals in a scope of their own.
func (x *expander) bind(ids []api.Syn, sc *scope) ([]int, *scope) {
	var locals []int
	for _, id := range ids {
		sc = &scope{id: id, local: x.local(), outer: sc}
		locals = append(locals, sc.local)
	}
	return locals, sc
}
