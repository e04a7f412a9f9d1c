package expand_test

import (
	"math/rand"

	"athanor/api"
	"athanor/rules"
)

// sampler makes random forms.
type sampler struct {
	*rand.Rand
	taken []string // what a macro's variables are called, while a template is made
	many  bool     // is there one that is multiplied, called r
	clean bool     // is nothing broken
}

func (s *sampler) one(all ...string) string { return all[s.Intn(len(all))] }

// name is an identifier: most often a plain one.
func (s *sampler) name() api.Syn {
	switch n := s.Intn(60); {
	case n < 8 && len(s.taken) > 0:
		return id(s.one(s.taken...))
	case n < 44:
		return id(s.one("a", "b", "x", "y", "t", "tmp"))
	case n < 52:
		return id(s.one("car", "list", "cons", "v", "nothing", "eqv?"))
	case n < 55 && !s.clean:
		return id(api.Specials[s.Intn(len(api.Specials))])
	case n < 57 && !s.clean:
		return id(s.one("m0", "m1", "m2", "def", "my-or", "uq"))
	case n < 58 && len(s.taken) == 0: // the form's stamps count nothing
		return id(s.one("a", "b", "x"), s.Intn(3))
	}
	return id(s.one("a", "b"))
}

func (s *sampler) atom() api.Syn {
	switch s.Intn(6) {
	case 0:
		return atom(api.Node{Kind: api.GBool, Num: s.Intn(2)})
	case 1:
		return text(s.one("", "s", "text"))
	case 2:
		return vector(s.name(), number(1))
	}
	return number(s.Intn(10))
}

// some are so many expressions.
func (s *sampler) some(depth, least, most int) []api.Syn {
	var out []api.Syn
	for range least + s.Intn(most-least+1) {
		out = append(out, s.expr(depth))
	}
	if s.many && s.Intn(8) == 0 {
		out = append(out, id("r"), id("..."))
	}
	return out
}

// names are some identifiers, seldom the same.
func (s *sampler) names(most int) []api.Syn {
	var out []api.Syn
	for _, i := range s.Perm(6)[:s.Intn(most+1)] {
		n := id([]string{"a", "b", "x", "y", "t", "tmp"}[i])
		if s.Intn(7) == 0 {
			n = s.name()
		}
		out = append(out, n)
	}
	return out
}

// pairs are bindings.
func (s *sampler) pairs(depth, most int) api.Syn {
	var out []api.Syn
	for _, n := range s.names(most) {
		out = append(out, list(n, s.expr(depth)))
	}
	return list(out...)
}

// body is a body: definitions, as often as not, and expressions.
func (s *sampler) body(depth int) []api.Syn {
	var out []api.Syn
	if s.Intn(3) == 0 {
		for _, n := range s.names(3) {
			out = append(out, s.definition(n, depth))
		}
	}
	out = append(out, s.some(depth, 1, 2)...)
	if s.Intn(12) == 0 {
		out = []api.Syn{call("begin", out...)}
	}
	if s.Intn(30) == 0 {
		out = append(out, s.definition(s.name(), depth))
	}
	return out
}

// definition is a form that defines, or may do so.
func (s *sampler) definition(n api.Syn, depth int) api.Syn {
	switch s.Intn(10) {
	case 0:
		return call("def", n, s.expr(depth))
	case 1:
		return call("begin", call("define", n, s.expr(depth)))
	case 2, 3:
		return s.broken(call("define", append([]api.Syn{s.params(n)}, s.body(depth)...)...))
	case 4:
		return s.record(n)
	case 5:
		return call("two", n)
	case 6:
		return call(s.one("m0", "m1", "m2"), n, s.expr(depth))
	}
	return s.broken(call("define", n, s.expr(depth)))
}

// params are a list of names that begins with one, perhaps with a Tail.
func (s *sampler) params(first ...api.Syn) api.Syn {
	all := append(first, s.names(2)...)
	if s.Intn(4) > 0 || len(all) == 0 {
		return list(all...)
	}
	return dotted(s.name(), all...)
}

func (s *sampler) record(n api.Syn) api.Syn {
	kids := []api.Syn{n, call(s.one("make", "make2", "a"), id("f")), id(s.one("test?", "test2?")), list(id("f"), id(s.one("get", "get2", "b")))}
	if s.Intn(2) == 0 {
		kids = append(kids, list(id("g"), s.name(), s.name()))
	}
	return s.broken(call("define-record-type", kids...))
}

// broken is a form as it is, or, seldom, one that is not as it should be.
func (s *sampler) broken(f api.Syn) api.Syn {
	if s.clean || s.Intn(40) > 0 || len(f.Kids) == 0 {
		return f
	}
	i := s.Intn(len(f.Kids))
	kids := append([]api.Syn(nil), f.Kids...)
	switch s.Intn(5) {
	case 0:
		return list(append(kids[:i], kids[i+1:]...)...)
	case 1:
		return list(append(kids, kids[i])...)
	case 2:
		return dotted(s.name(), kids...)
	case 3:
		kids[i] = s.atom()
	case 4:
		kids[i] = list()
	}
	return list(kids...)
}

// expr is a random expression.
func (s *sampler) expr(depth int) api.Syn {
	if depth <= 0 || s.Intn(12) == 0 {
		if s.Intn(3) == 0 {
			return s.atom()
		}
		return s.name()
	}
	return s.broken(s.form(depth - 1))
}

func (s *sampler) form(d int) api.Syn {
	switch s.Intn(15) {
	case 0, 1:
		return s.binding(d)
	case 2, 3:
		return s.choice(d)
	case 4:
		return call("quasiquote", s.quoted(d, 1))
	case 5, 6, 7:
		return s.use(d)
	case 8:
		return s.control(d)
	case 9:
		return call("lambda", append([]api.Syn{s.params()}, s.body(d)...)...)
	case 10:
		return call("set!", s.name(), s.expr(d))
	case 11:
		return call("quote", s.quoted(d, 9))
	case 12:
		return call("begin", s.some(d, 1, 3)...)
	case 13:
		return call("if", s.some(d, 2, 3)...)
	}
	return list(append([]api.Syn{s.expr(d)}, s.some(d, 0, 3)...)...)
}

func (s *sampler) binding(d int) api.Syn {
	switch s.Intn(6) {
	case 0:
		return call("let", append([]api.Syn{s.name(), s.pairs(d, 2)}, s.body(d)...)...)
	case 1, 2:
		return call(s.one("let", "let*"), append([]api.Syn{s.pairs(d, 3)}, s.body(d)...)...)
	case 3:
		return call(s.one("letrec", "letrec*"), append([]api.Syn{s.pairs(d, 3)}, s.body(d)...)...)
	case 4:
		return call("let*", append([]api.Syn{s.pairs(d, 3)}, s.body(d)...)...)
	}
	pairs := s.pairs(d, 2)
	for i := range pairs.Kids {
		if s.Intn(2) == 0 {
			pairs.Kids[i].Kids = append(pairs.Kids[i].Kids, s.expr(d))
		}
	}
	return call("do", append([]api.Syn{pairs, list(s.some(d, 1, 3)...)}, s.some(d, 0, 2)...)...)
}

// clauses are a cond's.
func (s *sampler) clauses(d int) []api.Syn {
	var out []api.Syn
	for range s.Intn(4) {
		switch s.Intn(4) {
		case 0:
			out = append(out, list(s.expr(d), id("=>"), s.expr(d)))
		default:
			out = append(out, list(s.some(d, 1, 3)...))
		}
	}
	if s.Intn(2) == 0 {
		out = append(out, call("else", s.some(d, 1, 2)...))
	}
	return out
}

func (s *sampler) choice(d int) api.Syn {
	switch s.Intn(6) {
	case 0:
		return call("and", s.some(d, 0, 3)...)
	case 1:
		return call("or", s.some(d, 0, 3)...)
	case 2, 3:
		return call("cond", s.clauses(d)...)
	case 4:
		out := []api.Syn{s.expr(d)}
		for range s.Intn(3) {
			out = append(out, list(append([]api.Syn{list(s.quoted(1, 9), s.name())}, s.some(d, 1, 2)...)...))
		}
		if s.Intn(2) == 0 {
			out = append(out, call("else", s.some(d, 1, 2)...))
		}
		return call("case", out...)
	}
	return call(s.one("when", "unless"), s.some(d, 2, 3)...)
}

func (s *sampler) control(d int) api.Syn {
	switch s.Intn(4) {
	case 0:
		return call("with-continuation-mark", s.expr(d), s.expr(d), s.expr(d))
	case 1:
		var pairs []api.Syn
		for range s.Intn(3) {
			pairs = append(pairs, list(s.expr(d), s.expr(d)))
		}
		return call("parameterize", append([]api.Syn{list(pairs...)}, s.body(d)...)...)
	}
	return call("guard", append([]api.Syn{list(append([]api.Syn{s.name()}, s.clauses(d)...)...)}, s.body(d)...)...)
}

// quoted is a piece of a quasiquote of a level.
func (s *sampler) quoted(d, level int) api.Syn {
	switch n := s.Intn(12); {
	case d <= 0 || n < 2:
		return s.expr(0)
	case n < 4 && level == 1:
		return call("unquote", s.expr(d-1))
	case n < 4 && level < 9:
		return call("unquote", s.quoted(d-1, level-1))
	case n < 5 && level < 9:
		return call("quasiquote", s.quoted(d-1, level+1))
	case n < 7 && level == 1:
		return list(call("unquote-splicing", s.expr(d-1)), s.quoted(d-1, level))
	case n < 7 && level < 9:
		return list(s.quoted(d-1, level), call("unquote-splicing", s.quoted(d-1, level-1)))
	case n < 8:
		return vector(s.quoted(d-1, level), s.quoted(d-1, level))
	case n < 9:
		return dotted(id(s.one("a", "unquote")), s.quoted(d-1, level), s.quoted(d-1, level))
	case n < 10 && level < 9:
		return dotted(id(s.one("a", "b")), s.quoted(d-1, level), id("unquote"), s.quoted(d-1, level))
	}
	return list(s.quoted(d-1, level), s.quoted(d-1, level), s.quoted(d-1, level))
}

// use is a macro's use.
func (s *sampler) use(d int) api.Syn {
	switch s.Intn(12) {
	case 0:
		return call("my-or", s.some(d, 0, 3)...)
	case 1:
		return call("swap!", s.name(), s.name())
	case 2:
		return call(s.one("my-let", "my-let*"), append([]api.Syn{s.pairs(d, 2)}, s.body(d)...)...)
	case 3:
		return call("while", s.some(d, 1, 3)...)
	case 4:
		return call("with-x", s.expr(d))
	case 5:
		return call("lam", s.name(), s.expr(d))
	case 6:
		return call("pass", id(s.one("lit", "lit-far", "with-x")), s.name())
	case 7:
		return call(s.one("lit", "lit-far"), s.name())
	}
	return call(s.one("m0", "m1", "m2"), s.name(), s.expr(d))
}

// worlds is what random worlds have in common: three environments, in which most names are the same.
func worlds() world {
	lit := macroOf("(syntax-rules (else => a if car t) ((_ else) (list 1)) ((_ =>) (list 2)) ((_ a) a) ((_ if) 4) ((_ car) (car t)) ((_ t) 6) ((_ x) (let ((t 1)) (list x t))))")
	w := nested().
		macro(0, "def", "(syntax-rules () ((_ n e) (define n e)))").
		macro(0, "pass", "(syntax-rules () ((_ m x) (m x)))").
		with(0, "lit", api.Found{Kind: api.FMacro, Macro: lit}).
		with(0, "lit-far", api.Found{Kind: api.FMacro, Env: 2, Macro: lit}).
		variable(1, "v").variable(2, "a")
	for env := range 3 {
		for name, f := range w[0] {
			if _, ok := w[env][name]; !ok {
				w[env][name] = f
			}
		}
	}
	return w
}

// world is a world in which macros of random templates are m0, m1 and m2, wherever they stand; other names are something else here and there.
func (s *sampler) world(base world) world {
	w := base.with(0, "nothing", api.Found{})
	for _, name := range []string{"m0", "m1", "m2"} {
		f := api.Found{Kind: api.FMacro, Env: s.Intn(3), Macro: s.macro()}
		for env := range 3 {
			if env == 0 || s.Intn(3) > 0 {
				w[env][name] = f
			}
		}
	}
	for range s.Intn(3) {
		odd := []api.Found{{Kind: api.FVar, Env: 1}, {}, {Kind: api.FPrim, N: api.PrCar}, {Kind: api.FSpecial, N: s.Intn(len(api.Specials))}, {Kind: api.FSpecial, N: api.SpElse}, w[0]["my-or"]}
		w[s.Intn(3)][s.one("if", "car", "let", "a", "x", "else", "begin", "define", "tmp")] = odd[s.Intn(len(odd))]
	}
	return w
}

// macro is a macro of a random template.
func (s *sampler) macro() api.Macro {
	for {
		pattern, literals := list(id("_"), id("p"), id("q")), list()
		t := &sampler{Rand: s.Rand, taken: []string{"p", "q"}, clean: s.clean}
		if s.Intn(3) == 0 {
			pattern, t.many = list(id("_"), id("p"), id("r"), id("...")), true
			t.taken = []string{"p"}
		}
		var template api.Syn
		switch s.Intn(5) {
		case 0:
			template = call("begin", t.definition(id(s.one("p", "tmp")), 1), t.definition(t.name(), 1))
		case 1:
			template = t.definition(id(s.one("p", "tmp")), 2)
		default:
			template = t.expr(2)
		}
		ones := []api.Syn{list(pattern, template)}
		if s.Intn(4) == 0 {
			literals = list(id(s.one("else", "a", "if", "x")))
			ones = append([]api.Syn{list(list(id("_"), literals.Kids[0], id("q")), call("list", number(0), id("q")))}, ones...)
		}
		if m, err := rules.Parse(call("syntax-rules", append([]api.Syn{literals}, ones...)...)); err == api.OK {
			return m
		}
	}
}

// top is a form at the outermost level.
func (s *sampler) top(depth int) api.Syn {
	switch s.Intn(30) {
	case 0:
		return s.broken(call("begin", s.body(depth)...))
	case 1, 2:
		return s.definition(s.name(), depth)
	case 3:
		return s.record(s.name())
	case 4:
		return s.broken(call("define-syntax", s.name(), s.broken(call("syntax-rules", list(), list(list(id("_"), id("p")), s.expr(depth))))))
	}
	return s.expr(depth)
}
