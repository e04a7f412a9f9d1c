package expand_test

import (
	"slices"

	"athanor/api"
	"athanor/rules"
)

// The chapter written out a second time: a derived form becomes a form of simpler ones, whose keywords, primitives and own locals are identifiers that nobody else has; what is bound stands in a map that is copied; the weight is reckoned at the end; what is wrong is a panic.

// model is what is kept while a form is expanded.
type model struct {
	w           world
	homes       map[int]int
	locals, own int
}

// names are locals, by identifiers as they are written.
type names map[string]int

func (n names) and(id api.Syn, local int) names {
	out := names{write(id): local}
	for k, v := range n {
		if _, ok := out[k]; !ok {
			out[k] = v
		}
	}
	return out
}

// kw is the special form or primitive of a name, or something of the model's own, whatever is bound.
func kw(name string) api.Syn { return id(name, -1) }

func isKw(s api.Syn, name string) bool {
	return s.Kind == api.SId && s.Text == name && slices.Equal(s.Stamps, []int{-1})
}

// do is a list that begins with such a name.
func do(name string, others ...api.Syn) api.Syn {
	return list(append([]api.Syn{kw(name)}, others...)...)
}

func (m *model) ownId() api.Syn {
	m.own++
	return id("own", -2, m.own)
}

func want(so bool) {
	if !so {
		panic("not so")
	}
}

// modelTop is Top by the words.
func modelTop(w world, form api.Syn) (top api.Top, err api.Errno) {
	defer func() {
		if recover() != nil {
			top, err = api.Top{}, api.ErrSyntax
		}
	}()
	want(rules.Size(form) <= api.MaxForms)
	m := &model{w: w, homes: map[int]int{}}
	s := without(form)
	for {
		made, ok := m.made(s, nil)
		if !ok {
			break
		}
		s = made
	}
	switch m.head(s, nil) {
	case "define-syntax":
		want(len(s.Kids) == 3 && len(s.Tail) == 0 && s.Kids[1].Kind == api.SId && m.head(s.Kids[2], nil) == "syntax-rules")
		macro, err := rules.Parse(without(s.Kids[2]))
		want(err == api.OK)
		return api.Top{Kind: api.TopSyntax, Name: s.Kids[1].Text, Macro: macro}, api.OK
	case "begin":
		want(len(s.Tail) == 0)
		return api.Top{Kind: api.TopBegin, Forms: without(s).Kids[1:]}, api.OK
	case "define-record-type":
		return api.Top{Kind: api.TopBegin, Forms: without(list(record(s)...)).Kids}, api.OK
	case "define":
		name, value := definition(s)
		top = api.Top{Kind: api.TopCore, Core: api.Core{Op: api.CDefine, Name: name.Text, Kids: []api.Core{m.expr(value, nil)}}}
	default:
		top = api.Top{Kind: api.TopCore, Core: m.expr(s, nil)}
	}
	want(weightOf(top.Core) <= api.MaxCore)
	return top, api.OK
}

func without(s api.Syn) api.Syn {
	out := api.Syn{Kind: s.Kind, Text: s.Text, Atom: s.Atom}
	for _, k := range s.Kids {
		out.Kids = append(out.Kids, without(k))
	}
	for _, k := range s.Tail {
		out.Tail = append(out.Tail, without(k))
	}
	return out
}

// resolve tells what an identifier is: a local, or what is found, and in which environment.
func (m *model) resolve(s api.Syn, n names, env int) (int, int, api.Found) {
	if local, ok := n[write(s)]; ok {
		return local, 0, api.Found{}
	}
	if len(s.Stamps) == 0 {
		return 0, env, m.w.look(env, s.Text)
	}
	last := len(s.Stamps) - 1
	if s.Stamps[last] == -1 {
		return 0, 0, builtin(s.Text)
	}
	home, ok := m.homes[s.Stamps[last]]
	want(ok)
	return m.resolve(id(s.Text, s.Stamps[:last]...), nil, home)
}

// word is the special form that an identifier is, or nothing.
func (m *model) word(s api.Syn, n names) string {
	if s.Kind != api.SId {
		return ""
	}
	if _, _, f := m.resolve(s, n, 0); f.Kind == api.FSpecial {
		return api.Specials[f.N]
	}
	return ""
}

func (m *model) head(s api.Syn, n names) string {
	if s.Kind != api.SList || len(s.Kids) == 0 {
		return ""
	}
	return m.word(s.Kids[0], n)
}

// made is what a macro makes of its use; false, if it is none.
func (m *model) made(s api.Syn, n names) (api.Syn, bool) {
	if s.Kind != api.SList || len(s.Kids) == 0 || s.Kids[0].Kind != api.SId {
		return s, false
	}
	_, _, f := m.resolve(s.Kids[0], n, 0)
	if f.Kind != api.FMacro {
		return s, false
	}
	stamp := 1000 - 3*len(m.homes)
	m.homes[stamp] = f.Env
	want(len(m.homes) <= api.MaxMacros)
	out, err := rules.Use(f.Macro, s, stamp, func(literal, it api.Syn) bool {
		local, _, found := m.resolve(it, n, 0)
		there := m.w.look(f.Env, literal.Text)
		return local == 0 && it.Text == literal.Text && found.Kind == there.Kind && found.N == there.N && found.Env == there.Env
	})
	want(err == api.OK)
	return out, true
}

func (m *model) exprs(all []api.Syn, n names) []api.Core {
	var out []api.Core
	for _, s := range all {
		out = append(out, m.expr(s, n))
	}
	return out
}

// bind binds identifiers, no two of which may be the same.
func (m *model) bind(ids []api.Syn, n names) ([]int, names) {
	var out []int
	met := map[string]int{}
	for _, s := range ids {
		want(s.Kind == api.SId)
		met[write(s)]++
		want(met[write(s)] == 1)
		m.locals++
		out = append(out, m.locals)
		n = n.and(s, m.locals)
	}
	return out, n
}

func (m *model) expr(s api.Syn, n names) api.Core {
	switch {
	case isKw(s, "%void"):
		return api.Core{Op: api.CConst, Datum: api.Graph{Nodes: []api.Node{{Kind: api.GVoid}}, Roots: []int{0}}}
	case isKw(s, "%unset"):
		return api.Core{Op: api.CUnset}
	case s.Kind == api.SId:
		return m.identifier(s, n)
	case s.Kind != api.SList:
		return api.Core{Op: api.CConst, Datum: rules.To(s)}
	}
	want(len(s.Kids) > 0)
	if made, ok := m.made(s, n); ok {
		return m.expr(made, n)
	}
	want(len(s.Tail) == 0)
	args := s.Kids[1:]
	if isKw(s.Kids[0], "%body") {
		return m.body(args, n)
	}
	if isKw(s.Kids[0], "%app") { // a call, though it may look like something else
		return api.Core{Op: api.CApp, Kids: append(m.exprs(args[1:], n), m.expr(args[0], n))}
	}
	if isKw(s.Kids[0], "%expr") {
		return m.expr(args[0], n)
	}
	if isKw(s.Kids[0], "%cond") {
		return m.expr(m.cond(args[0], args[1:], n), n)
	}
	if word := m.word(s.Kids[0], n); word != "" {
		return m.special(word, args, n)
	}
	return api.Core{Op: api.CApp, Kids: append(m.exprs(args, n), m.expr(s.Kids[0], n))}
}

func (m *model) identifier(s api.Syn, n names) api.Core {
	local, env, f := m.resolve(s, n, 0)
	switch {
	case local != 0:
		return api.Core{Op: api.CLocal, Var: local}
	case f.Kind == api.FVar || f.Kind == api.FNone:
		return api.Core{Op: api.CGlobal, Env: env, Name: s.Text}
	case f.Kind == api.FPrim:
		return api.Core{Op: api.CPrim, Num: f.N}
	}
	panic("a keyword or a macro")
}

func (m *model) special(word string, args []api.Syn, n names) api.Core {
	switch word {
	case "quote":
		want(len(args) == 1)
		return api.Core{Op: api.CConst, Datum: rules.To(args[0])}
	case "if":
		if len(args) == 2 {
			args = []api.Syn{args[0], args[1], kw("%void")}
		}
		want(len(args) == 3)
		return api.Core{Op: api.CIf, Kids: m.exprs(args, n)}
	case "with-continuation-mark":
		want(len(args) == 3)
		return api.Core{Op: api.CMark, Kids: m.exprs(args, n)}
	case "begin":
		want(len(args) > 0)
		all := m.exprs(args, n)
		if len(all) == 1 {
			return all[0]
		}
		return api.Core{Op: api.CSeq, Kids: all}
	case "set!":
		want(len(args) == 2 && args[0].Kind == api.SId)
		local, env, f := m.resolve(args[0], n, 0)
		if local != 0 {
			return api.Core{Op: api.CSet, Var: local, Kids: m.exprs(args[1:], n)}
		}
		want(f.Kind == api.FVar || f.Kind == api.FNone || f.Kind == api.FPrim)
		return api.Core{Op: api.CSetG, Env: env, Name: args[0].Text, Kids: m.exprs(args[1:], n)}
	case "lambda":
		return m.lambda(args[0], args[1:], n)
	}
	return m.expr(m.simpler(word, args, n), n)
}

func (m *model) lambda(params api.Syn, body []api.Syn, n names) api.Core {
	want(params.Kind == api.SId || params.Kind == api.SList)
	ids, tail := slices.Clone(params.Kids), params.Tail
	if params.Kind == api.SId {
		ids, tail = nil, []api.Syn{params}
	}
	locals, inner := m.bind(append(ids, tail...), n)
	out := api.Core{Op: api.CLambda, Params: locals[:len(ids)]}
	if len(tail) > 0 {
		out.Rest = locals[len(ids)]
	}
	out.Kids = []api.Core{m.body(body, inner)}
	return out
}

// simpler is what a derived form stands for.
func (m *model) simpler(word string, args []api.Syn, n names) api.Syn {
	switch word {
	case "let":
		if args[0].Kind == api.SId {
			x, e := pairsOf(args[1])
			f := do("letrec", list(list(args[0], do("lambda", append([]api.Syn{list(x...)}, args[2:]...)...))), args[0])
			return list(append([]api.Syn{f}, e...)...)
		}
		x, e := pairsOf(args[0])
		return list(append([]api.Syn{do("lambda", append([]api.Syn{list(x...)}, args[1:]...)...)}, e...)...)
	case "let*":
		x, e := pairsOf(args[0])
		if len(x) == 0 {
			return do("let", args...)
		}
		return do("let", list(list(x[0], e[0])), do("let*", append([]api.Syn{list(args[0].Kids[1:]...)}, args[1:]...)...))
	case "letrec", "letrec*":
		x, e := pairsOf(args[0])
		inner := []api.Syn{list(x...)}
		for i := range x {
			inner = append(inner, do("set!", x[i], e[i]))
		}
		out := []api.Syn{do("lambda", append(inner, do("%body", args[1:]...))...)}
		return list(append(out, row(len(x), kw("%unset"))...)...)
	case "and", "or":
		return m.andOr(word, args)
	case "cond":
		return do("%cond", append([]api.Syn{kw("%void")}, args...)...)
	case "case":
		t := m.ownId()
		return list(do("lambda", list(t), do("%expr", m.cases(t, args[1:], n))), args[0]) // no body, whose begins would be pulled apart
	case "when":
		return do("if", args[0], do("begin", args[1:]...), kw("%void"))
	case "unless":
		return do("if", args[0], kw("%void"), do("begin", args[1:]...))
	case "do":
		return m.do(args)
	case "quasiquote":
		want(len(args) == 1)
		return m.quasi(args[0], 1, n)
	case "parameterize":
		p, e := pairsOf(args[0])
		var all []api.Syn
		for i := range p {
			all = append(all, do("cons", p[i], e[i]))
		}
		return do("%with-parameters", do("list", all...), do("lambda", append([]api.Syn{list()}, args[1:]...)...))
	case "guard":
		return m.guard(args)
	}
	panic("it stands elsewhere")
}

func pairsOf(s api.Syn) (x, e []api.Syn) {
	want(s.Kind == api.SList && len(s.Tail) == 0)
	for _, p := range s.Kids {
		want(p.Kind == api.SList && len(p.Kids) == 2 && len(p.Tail) == 0)
		x, e = append(x, p.Kids[0]), append(e, p.Kids[1])
	}
	return x, e
}

func (m *model) andOr(word string, args []api.Syn) api.Syn {
	truth := map[string]int{"and": 1}[word]
	if len(args) == 0 {
		return do("quote", atom(api.Node{Kind: api.GBool, Num: truth}))
	}
	if len(args) == 1 {
		return args[0]
	}
	if word == "and" {
		return do("if", args[0], do("and", args[1:]...), atom(api.Node{Kind: api.GBool}))
	}
	t := m.ownId()
	return list(do("lambda", list(t), do("if", t, t, do("or", args[1:]...))), args[0])
}

func plainList(s api.Syn) []api.Syn {
	want(s.Kind == api.SList && len(s.Tail) == 0)
	return s.Kids
}

func (m *model) cond(last api.Syn, clauses []api.Syn, n names) api.Syn {
	if len(clauses) == 0 {
		return last
	}
	c := plainList(clauses[0])
	others := do("%cond", append([]api.Syn{last}, clauses[1:]...)...)
	t := m.ownId()
	switch {
	case m.word(c[0], n) == "else":
		want(len(clauses) == 1)
		return do("begin", c[1:]...)
	case len(c) == 1:
		return list(do("lambda", list(t), do("if", t, t, others)), c[0])
	case len(c) == 3 && m.word(c[1], n) == "=>":
		return list(do("lambda", list(t), do("if", t, do("%app", c[2], t), others)), c[0])
	}
	return do("if", c[0], do("begin", c[1:]...), others)
}

func (m *model) cases(t api.Syn, clauses []api.Syn, n names) api.Syn {
	if len(clauses) == 0 {
		return kw("%void")
	}
	c := plainList(clauses[0])
	if m.word(c[0], n) == "else" {
		want(len(clauses) == 1)
		return do("begin", c[1:]...)
	}
	test := atom(api.Node{Kind: api.GBool})
	for _, d := range slices.Backward(plainList(c[0])) {
		test = do("if", do("eqv?", t, do("quote", d)), atom(api.Node{Kind: api.GBool, Num: 1}), test)
	}
	return do("if", test, do("begin", c[1:]...), m.cases(t, clauses[1:], n))
}

func (m *model) do(args []api.Syn) api.Syn {
	loop := m.ownId()
	var pairs, steps []api.Syn
	for _, v := range plainList(args[0]) {
		k := plainList(v)
		want(len(k) == 2 || len(k) == 3)
		pairs = append(pairs, list(k[0], k[1]))
		steps = append(steps, append(k, k[0])[2])
	}
	end := plainList(args[1])
	result := kw("%void")
	if len(end) > 1 {
		result = do("begin", end[1:]...)
	}
	turn := do("begin", append(slices.Clone(args[2:]), list(append([]api.Syn{loop}, steps...)...))...)
	return do("let", loop, list(pairs...), do("if", end[0], result, turn))
}

func (m *model) guard(args []api.Syn) api.Syn {
	k, j, r := m.ownId(), m.ownId(), m.ownId()
	c := plainList(args[0])
	x := c[0]
	want(x.Kind == api.SId)
	lambda := func(params api.Syn, body ...api.Syn) api.Syn {
		return do("lambda", append([]api.Syn{params}, body...)...)
	}
	raised := list(j, lambda(list(), do("raise-continuable", x)))
	clauses := do("%cond", append([]api.Syn{raised}, c[1:]...)...)
	h := lambda(list(x), list(do("call/cc", lambda(list(j), list(k, lambda(list(), clauses))))))
	b := lambda(list(), do("call-with-values", lambda(list(), args[1:]...), lambda(r, list(k, lambda(list(), do("apply", kw("values"), r))))))
	return list(do("call/cc", lambda(list(k), do("with-exception-handler", h, b))))
}

// holds tells whether a list within a piece, or itself, begins with one of quasiquote's words.
func (m *model) holds(d api.Syn, n names) bool {
	if d.Kind == api.SVector {
		return slices.ContainsFunc(d.Kids, func(k api.Syn) bool { return m.holds(k, n) })
	}
	if d.Kind != api.SList || len(d.Kids) == 0 {
		return false
	}
	return slices.Contains([]string{"unquote", "unquote-splicing", "quasiquote"}, m.word(d.Kids[0], n)) || m.holds(d.Kids[0], n) || m.holds(restOf(d), n)
}

func restOf(d api.Syn) api.Syn {
	if len(d.Kids) == 1 && len(d.Tail) == 1 {
		return d.Tail[0]
	}
	return api.Syn{Kind: api.SList, Kids: d.Kids[1:], Tail: d.Tail}
}

func (m *model) quasi(d api.Syn, level int, n names) api.Syn {
	two := func(s api.Syn, word string) bool {
		return s.Kind == api.SList && len(s.Kids) == 2 && len(s.Tail) == 0 && m.word(s.Kids[0], n) == word
	}
	quote := func(s api.Syn) api.Syn { return do("quote", s) }
	switch {
	case !m.holds(d, n):
		return quote(d)
	case d.Kind == api.SVector:
		return do("list->vector", m.quasi(list(d.Kids...), level, n))
	case two(d, "unquote") && level == 1:
		return d.Kids[1]
	case two(d, "unquote"):
		return do("cons", quote(id("unquote")), m.quasi(restOf(d), level-1, n))
	case two(d, "quasiquote"):
		return do("cons", quote(id("quasiquote")), m.quasi(restOf(d), level+1, n))
	case two(d.Kids[0], "unquote-splicing") && level == 1:
		return do("append", d.Kids[0].Kids[1], m.quasi(restOf(d), level, n))
	case two(d.Kids[0], "unquote-splicing"):
		return do("cons", do("cons", quote(id("unquote-splicing")), m.quasi(restOf(d.Kids[0]), level-1, n)), m.quasi(restOf(d), level, n))
	}
	return do("cons", m.quasi(d.Kids[0], level, n), m.quasi(restOf(d), level, n))
}

// definition is the name of a define, and what it is defined as.
func definition(s api.Syn) (api.Syn, api.Syn) {
	want(len(s.Tail) == 0 && len(s.Kids) > 2)
	x := s.Kids[1]
	if x.Kind == api.SId {
		want(len(s.Kids) == 3)
		return x, s.Kids[2]
	}
	want(x.Kind == api.SList && len(x.Kids) > 0 && x.Kids[0].Kind == api.SId)
	return x.Kids[0], do("lambda", append([]api.Syn{restOf(x)}, s.Kids[2:]...)...)
}

// record are the definitions that a define-record-type stands for.
func record(s api.Syn) []api.Syn {
	want(len(s.Tail) == 0 && len(s.Kids) > 3)
	kind, maker, test := s.Kids[1], plainList(s.Kids[2]), s.Kids[3]
	want(kind.Kind == api.SId && test.Kind == api.SId)
	var g []api.Syn
	var fields []api.Syn
	names := map[string]int{}
	define := func(name, value api.Syn) api.Syn {
		want(name.Kind == api.SId)
		return do("define", name, value)
	}
	for _, f := range s.Kids[4:] {
		k := plainList(f)
		want((len(k) == 2 || len(k) == 3) && k[0].Kind == api.SId)
		names[write(k[0])]++
		want(names[write(k[0])] == 1)
		g = append(g, k[0])
		fields = append(fields, define(k[1], do("%record-getter", kind, do("quote", k[0]))))
		if len(k) == 3 {
			fields = append(fields, define(k[2], do("%record-setter", kind, do("quote", k[0]))))
		}
	}
	for _, f := range maker[1:] {
		want(f.Kind == api.SId && names[write(f)] == 1)
		names[write(f)]++
	}
	return append([]api.Syn{
		define(kind, do("%record-type", do("quote", kind), do("quote", list(g...)))),
		define(maker[0], do("%record-maker", kind, do("quote", list(maker[1:]...)))),
		define(test, do("%record-test", kind)),
	}, fields...)
}

func (m *model) body(forms []api.Syn, n names) api.Core {
	var defined []api.Syn
	outer := n
	met := map[string]int{}
	for {
		want(len(forms) > 0)
		s := forms[0]
		if made, ok := m.made(s, n); ok {
			forms = append([]api.Syn{made}, forms[1:]...)
			continue
		}
		switch m.head(s, n) {
		case "begin":
			want(len(s.Tail) == 0)
			forms = slices.Concat(s.Kids[1:], forms[1:])
			continue
		case "define":
			x, e := definition(s)
			want(met[write(x)] == 0)
			met[write(x)]++
			n = n.and(x, -1)
			defined = append(defined, list(x, e))
			forms = forms[1:]
			continue
		case "define-record-type":
			forms = append(record(s), forms[1:]...)
			continue
		}
		if len(defined) > 0 {
			return m.expr(do("letrec*", append([]api.Syn{list(defined...)}, forms...)...), outer)
		}
		if len(forms) == 1 {
			return m.expr(forms[0], n)
		}
		return api.Core{Op: api.CSeq, Kids: m.exprs(forms, n)}
	}
}
