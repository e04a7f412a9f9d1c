package expand_test

import (
	"strconv"
	"testing"

	"athanor/api"
	"athanor/expand"
)

// Forms that macros make within one another: far deeper than a form that is handed in may be.

// counted is a world of a macro m: as often as there are pieces in its use, it puts its next use into what wrap makes of it, again and again; in the end it makes a 1.
func counted(times int, wrap func(s api.Syn) api.Syn) world {
	s := dotted(id("r"), id("m"))
	for range times {
		s = wrap(s)
	}
	m := api.Macro{Ellipsis: id("..."), Rules: []api.Rule{{Pattern: list(id("_")), Template: number(1)}, {Pattern: dotted(id("r"), id("_"), id("a")), Template: s}}}
	return world{0: {"m": {Kind: api.FMacro, Macro: m}}}
}

// What makes no core form of its own may be as deep as one likes.
func TestDeepFormsThatWeighNothing(t *testing.T) {
	all := call("m", row(api.MaxMacros-1, number(1))...)
	for what, c := range map[string]struct {
		times int
		wrap  func(s api.Syn) api.Syn
	}{
		"begin": {890, func(s api.Syn) api.Syn { return call("begin", s) }},
		"and":   {890, func(s api.Syn) api.Syn { return call("and", s) }},
		"or":    {890, func(s api.Syn) api.Syn { return call("or", s) }},
		"cond":  {440, func(s api.Syn) api.Syn { return call("cond", call("else", s)) }},
		"quasi": {440, func(s api.Syn) api.Syn { return call("quasiquote", call("unquote", s)) }},
	} {
		if got := topOf(counted(c.times, c.wrap), call("if", all, number(2))); got != "(if '1 '2 '#<void>)" {
			t.Errorf("%s: %.200s", what, got)
		}
	}
	w := counted(400, func(s api.Syn) api.Syn { return call("begin", call("begin"), s) })
	if got := topOf(w, call("lambda", list(), all, number(2))); got != "(lambda () (seq '1 '2))" {
		t.Errorf("rows in front of a body: %.200s", got)
	}
}

// What makes core forms is too heavy long before it is too deep.
func TestDeepFormsThatWeighSomething(t *testing.T) {
	for what, wrap := range map[string]func(s api.Syn) api.Syn{
		"if":           func(s api.Syn) api.Syn { return call("if", s, number(1)) },
		"the last":     func(s api.Syn) api.Syn { return call("if", number(1), number(2), s) },
		"call":         func(s api.Syn) api.Syn { return list(s) },
		"operand":      func(s api.Syn) api.Syn { return call("list", s) },
		"lambda":       func(s api.Syn) api.Syn { return call("lambda", list(), s) },
		"let*":         func(s api.Syn) api.Syn { return call("let*", list(list(id("x"), number(1))), s) },
		"letrec":       func(s api.Syn) api.Syn { return call("letrec", list(list(id("x"), s)), id("x")) },
		"body":         func(s api.Syn) api.Syn { return call("let", list(), call("define", id("x"), s), id("x")) },
		"and":          func(s api.Syn) api.Syn { return call("and", number(1), s) },
		"or":           func(s api.Syn) api.Syn { return call("or", number(1), s) },
		"or, in front": func(s api.Syn) api.Syn { return call("or", s, number(1)) },
		"cond":         func(s api.Syn) api.Syn { return call("cond", list(number(1), number(2)), call("else", s)) },
		"cond, within": func(s api.Syn) api.Syn { return call("cond", list(s)) },
		"case":         func(s api.Syn) api.Syn { return call("case", number(1), call("else", s)) },
		"case, within": func(s api.Syn) api.Syn { return call("case", s) },
		"when":         func(s api.Syn) api.Syn { return call("when", number(1), s) },
		"set!":         func(s api.Syn) api.Syn { return call("set!", id("x"), s) },
		"do":           func(s api.Syn) api.Syn { return call("do", list(), list(s)) },
		"mark":         func(s api.Syn) api.Syn { return call("with-continuation-mark", number(1), number(2), s) },
		"guard":        func(s api.Syn) api.Syn { return call("guard", list(id("x")), s) },
		"clauses":      func(s api.Syn) api.Syn { return call("guard", list(id("x"), call("else", s)), number(1)) },
		"parameterize": func(s api.Syn) api.Syn { return call("parameterize", list(), s) },
		"begin":        func(s api.Syn) api.Syn { return call("begin", number(1), s) },
		"quasi":        func(s api.Syn) api.Syn { return call("quasiquote", list(call("unquote", s))) },
		"splicing":     func(s api.Syn) api.Syn { return call("quasiquote", list(call("unquote-splicing", s))) },
		"vectors":      func(s api.Syn) api.Syn { return call("quasiquote", vector(call("unquote", s))) },
	} {
		w := counted(100, wrap)
		checkFits(t, what, w, list(call("m", number(1))), true)
		checkFits(t, what+" again and again", w, list(call("m", row(api.MaxMacros-1, number(1))...)), false)
	}
}

// wide is a world of a macro that is used as often as may be, and puts its use ahead of as many pieces as may be.
func wide(before, after []api.Syn) world {
	kids := append(append(append([]api.Syn{id("begin")}, before...), call("m")), after...)
	m := api.Macro{Ellipsis: id("..."), Rules: []api.Rule{{Pattern: list(id("_")), Template: list(kids...)}}}
	return world{0: {"m": {Kind: api.FMacro, Macro: m}}}
}

func TestWideForms(t *testing.T) {
	many := row(api.MaxForms-10, number(1))
	for _, w := range []world{wide(nil, many), wide(many, nil), wide(row(900, call("begin")), nil), wide(row(450, call("begin", call("begin"))), nil)} {
		for _, source := range []string{"(lambda () (m) 1)", "(list (m))", "(let ((x 1)) (m))"} {
			if got := answer(expand.Top(pieceOf(source), w.look)); got != "ErrSyntax" {
				t.Errorf("%s: %.200s", source, got)
			}
		}
	}
}

// What is as great as may be is done in no time.
func TestGreatForms(t *testing.T) {
	deep := id("v")
	for range 300 { // each is quoted within the one around it
		deep = call("quasiquote", list(id("a"), call("unquote", deep)))
	}
	checkFits(t, "quasiquotes", plain(), deep, true)
	vectors := call("unquote", id("v"))
	for range 600 {
		vectors = vector(vectors)
	}
	checkFits(t, "vectors", plain(), call("quasiquote", vectors), true)
	checkFits(t, "a long list", plain(), call("quasiquote", list(append(row(660, number(1)), call("unquote", id("v")))...)), true)
	var names []api.Syn
	for i := range 900 {
		names = append(names, id("name"+strconv.Itoa(i)))
	}
	checkFits(t, "names", plain(), call("lambda", list(names...), call("list", names...)), true)
	clauses := row(390, list(id("v"), id("v")))
	checkFits(t, "cond", plain(), call("cond", clauses...), true)
	checkFits(t, "or", plain(), call("or", row(570, id("v"))...), true)
	checkFits(t, "let*", plain(), call("let*", list(row(390, list(id("x"), id("x")))...), id("x")), true)
}
