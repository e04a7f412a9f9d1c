package expand_test

import (
	"slices"
	"strconv"
	"strings"
	"testing"

	"athanor/api"
	"athanor/expand"
	"athanor/print"
	"athanor/read"
	"athanor/rules"
)

func id(text string, stamps ...int) api.Syn {
	return api.Syn{Kind: api.SId, Text: text, Stamps: stamps}
}

func list(kids ...api.Syn) api.Syn   { return api.Syn{Kind: api.SList, Kids: kids} }
func vector(kids ...api.Syn) api.Syn { return api.Syn{Kind: api.SVector, Kids: kids} }
func atom(n api.Node) api.Syn        { return api.Syn{Kind: api.SAtom, Atom: n} }
func number(n int) api.Syn           { return atom(api.Node{Kind: api.GInt, Text: strconv.Itoa(n)}) }
func text(s string) api.Syn          { return atom(api.Node{Kind: api.GString, Text: s}) }

// dotted is a list with a Tail.
func dotted(tail api.Syn, kids ...api.Syn) api.Syn {
	return api.Syn{Kind: api.SList, Kids: kids, Tail: []api.Syn{tail}}
}

// call is a list that begins with a name.
func call(name string, others ...api.Syn) api.Syn {
	return list(append([]api.Syn{id(name)}, others...)...)
}

// pieceOf is a source as a piece; a name's stamps stand behind it, each behind a ~. It panics, if it is none.
func pieceOf(source string) api.Syn {
	g, err, place := read.Read([]byte(source))
	if err != api.OK || len(g.Roots) != 1 {
		panic(source + ": error " + strconv.Itoa(int(err)) + " at " + strconv.Itoa(place))
	}
	s, err := rules.From(g, g.Roots[0])
	if err != api.OK {
		panic(source + " is no piece")
	}
	return stamped(s)
}

// stamped takes stamps out of names.
func stamped(s api.Syn) api.Syn {
	if s.Kind == api.SId {
		parts := strings.Split(s.Text, "~")
		s.Text = parts[0]
		for _, p := range parts[1:] {
			n, err := strconv.Atoi(p)
			if err != nil {
				panic(p)
			}
			s.Stamps = append(s.Stamps, n)
		}
	}
	for i := range s.Kids {
		s.Kids[i] = stamped(s.Kids[i])
	}
	for i := range s.Tail {
		s.Tail[i] = stamped(s.Tail[i])
	}
	return s
}

// macroOf is what Parse makes of a source.
func macroOf(source string) api.Macro {
	m, err := rules.Parse(pieceOf(source))
	if err != api.OK {
		panic(source + " is no macro")
	}
	return m
}

// world is what names are, by environment. What is not in it is builtin, or nothing.
type world map[int]map[string]api.Found

func (w world) look(env int, name string) api.Found {
	if f, ok := w[env][name]; ok {
		return f
	}
	return builtin(name)
}

func builtin(name string) api.Found {
	if n := slices.Index(api.Specials[:], name); n >= 0 {
		return api.Found{Kind: api.FSpecial, N: n}
	}
	if n := slices.Index(api.Prims[:], name); n >= 0 {
		return api.Found{Kind: api.FPrim, N: n}
	}
	return api.Found{}
}

// with is a world in which a name is something in an environment, too.
func (w world) with(env int, name string, f api.Found) world {
	out := world{}
	for e, names := range w {
		out[e] = map[string]api.Found{}
		for k, v := range names {
			out[e][k] = v
		}
	}
	if out[env] == nil {
		out[env] = map[string]api.Found{}
	}
	out[env][name] = f
	return out
}

// macro is a world with a macro that stands in an environment.
func (w world) macro(env int, name, source string) world {
	return w.with(env, name, api.Found{Kind: api.FMacro, Env: env, Macro: macroOf(source)})
}

// variable is a world with a variable.
func (w world) variable(env int, name string) world {
	return w.with(env, name, api.Found{Kind: api.FVar, Env: env})
}

// write tells a piece in full: stamps stand behind a name, each behind a ~.
func write(s api.Syn) string {
	var b strings.Builder
	writeTo(&b, s)
	return b.String()
}

func writeTo(b *strings.Builder, s api.Syn) {
	switch s.Kind {
	case api.SId:
		b.WriteString(s.Text)
		for _, n := range s.Stamps {
			b.WriteString("~" + strconv.Itoa(n))
		}
		return
	case api.SAtom:
		b.WriteString(written(api.Graph{Nodes: []api.Node{s.Atom}, Roots: []int{0}}))
		return
	case api.SVector:
		b.WriteString("#")
	}
	b.WriteString("(")
	for i, kid := range s.Kids {
		if i > 0 {
			b.WriteString(" ")
		}
		writeTo(b, kid)
	}
	for _, tail := range s.Tail {
		b.WriteString(" . ")
		writeTo(b, tail)
	}
	b.WriteString(")")
}

// written is a graph's root as it is printed.
func written(g api.Graph) string {
	if len(g.Roots) != 1 {
		return "!" + strconv.Itoa(len(g.Roots)) + " roots!"
	}
	out, err := print.Print(g, g.Roots[0], false)
	if err != api.OK {
		return "!no datum!"
	}
	return out
}

// shower tells core forms: locals by the order in which they are bound, as one reads.
type shower struct {
	strings.Builder
	locals map[int]int
}

// show tells a core form: its operator stands behind its operands.
func show(c api.Core) string {
	s := &shower{locals: map[int]int{}}
	s.core(c)
	return s.String()
}

func (s *shower) core(c api.Core) {
	if !hasItsOwn(c) {
		s.WriteString("!" + strconv.Itoa(c.Op) + "!")
		return
	}
	switch c.Op {
	case api.CConst:
		s.WriteString("'" + written(c.Datum))
	case api.CLocal:
		s.local(c.Var)
	case api.CGlobal:
		s.WriteString(global(c))
	case api.CPrim:
		s.WriteString(":" + primName(c.Num))
	case api.CUnset:
		s.WriteString("unset")
	case api.CLambda:
		s.lambda(c)
	case api.CSet:
		s.WriteString("(set ")
		s.local(c.Var)
		s.kids(c.Kids)
	case api.CSetG:
		s.WriteString("(set " + global(c))
		s.kids(c.Kids)
	case api.CDefine:
		s.WriteString("(define " + global(c))
		s.kids(c.Kids)
	default:
		s.WriteString("(" + map[int]string{api.CIf: "if", api.CSeq: "seq", api.CApp: "app", api.CMark: "mark"}[c.Op])
		s.kids(c.Kids)
	}
}

func (s *shower) kids(all []api.Core) {
	for _, c := range all {
		s.WriteString(" ")
		s.core(c)
	}
	s.WriteString(")")
}

func (s *shower) local(n int) {
	if s.locals[n] == 0 {
		s.WriteString("?")
	}
	s.WriteString(strconv.Itoa(s.locals[n]))
}

func (s *shower) lambda(c api.Core) {
	s.WriteString("(lambda (")
	for i, n := range c.Params {
		if i > 0 {
			s.WriteString(" ")
		}
		s.binds(n)
	}
	if c.Rest != 0 {
		s.WriteString(" . ")
		s.binds(c.Rest)
	}
	s.WriteString(")")
	s.kids(c.Kids)
}

func (s *shower) binds(n int) {
	if s.locals[n] != 0 || n <= 0 {
		s.WriteString("!again!")
	}
	s.locals[n] = len(s.locals) + 1
	s.local(n)
}

func global(c api.Core) string {
	if c.Env == 0 {
		return c.Name
	}
	return c.Name + "@" + strconv.Itoa(c.Env)
}

func primName(n int) string {
	if n < 0 || n >= len(api.Prims) {
		return strconv.Itoa(n)
	}
	return api.Prims[n]
}

// hasItsOwn tells whether a core form has so many kids as its Op says, and nothing that it does not have.
func hasItsOwn(c api.Core) bool {
	kids := map[int]int{api.CSet: 1, api.CSetG: 1, api.CDefine: 1, api.CIf: 3, api.CLambda: 1, api.CMark: 3}[c.Op]
	if c.Op == api.CSeq || c.Op == api.CApp {
		kids = max(1, len(c.Kids))
	}
	if c.Op == api.CSeq {
		kids = max(2, kids)
	}
	has := c
	has.Op, has.Kids = 0, nil
	switch c.Op {
	case api.CConst:
		has.Datum = api.Graph{}
	case api.CLocal, api.CSet:
		has.Var = 0
	case api.CGlobal, api.CSetG:
		has.Env, has.Name = 0, ""
	case api.CDefine:
		has.Name = ""
	case api.CPrim:
		has.Num = 0
	case api.CLambda:
		has.Params, has.Rest = nil, 0
	}
	return 1 <= c.Op && c.Op <= 13 && len(c.Kids) == kids && isZero(has)
}

func isZero(c api.Core) bool {
	return c.Op == 0 && c.Env == 0 && c.Var == 0 && c.Num == 0 && c.Name == "" && len(c.Params) == 0 && c.Rest == 0 && len(c.Datum.Nodes)+len(c.Datum.Roots) == 0 && len(c.Kids) == 0
}

func isNoMacro(m api.Macro) bool {
	return m.Ellipsis.Kind == 0 && m.Ellipsis.Text == "" && len(m.Literals) == 0 && len(m.Rules) == 0
}

// answer is what Top told, as text; ErrSyntax, with nothing beside it.
func answer(top api.Top, err api.Errno) string {
	if err != api.OK {
		if err != api.ErrSyntax || top.Kind != 0 || !isZero(top.Core) || top.Name != "" || !isNoMacro(top.Macro) || len(top.Forms) > 0 {
			return "error " + strconv.Itoa(int(err)) + ", or something beside it"
		}
		return "ErrSyntax"
	}
	switch {
	case top.Kind == api.TopCore && top.Name == "" && isNoMacro(top.Macro) && len(top.Forms) == 0:
		return show(top.Core)
	case top.Kind == api.TopSyntax && isZero(top.Core) && len(top.Forms) == 0:
		return "syntax " + top.Name + " " + writeMacro(top.Macro)
	case top.Kind == api.TopBegin && isZero(top.Core) && top.Name == "" && isNoMacro(top.Macro):
		out := "forms"
		for _, s := range top.Forms {
			out += " " + write(s)
		}
		return out
	}
	return "!something else!"
}

// writeMacro tells a macro in full.
func writeMacro(m api.Macro) string {
	out := write(m.Ellipsis) + " " + write(list(m.Literals...))
	for _, r := range m.Rules {
		out += " " + write(r.Pattern) + " -> " + write(r.Template)
	}
	return out
}

// topOf is what Top tells of a piece, as text.
func topOf(w world, s api.Syn) string { return answer(expand.Top(s, w.look)) }

// checkTop holds what Top tells of a source.
func checkTop(t *testing.T, w world, source, want string) {
	t.Helper()
	if got := topOf(w, pieceOf(source)); got != want {
		t.Errorf("%s:\n%s, want\n%s", source, got, want)
	}
}

// checkAll holds what Top tells of sources: each stands ahead of what it wants.
func checkAll(t *testing.T, w world, all ...string) {
	t.Helper()
	for i := 0; i < len(all); i += 2 {
		checkTop(t, w, all[i], all[i+1])
	}
}

// refusesAll holds that sources are ErrSyntax.
func refusesAll(t *testing.T, w world, all ...string) {
	t.Helper()
	for _, source := range all {
		checkTop(t, w, source, "ErrSyntax")
	}
}

// weightOf is the weight of a core form.
func weightOf(c api.Core) int {
	n := 1 + len(c.Params)
	if c.Rest != 0 {
		n++
	}
	for _, node := range c.Datum.Nodes {
		n += 1 + len(node.Text)
	}
	for _, k := range c.Kids {
		n += weightOf(k)
	}
	return n
}

// bound are the locals that are bound in a core form, one by one.
func bound(c api.Core) []int {
	out := slices.Clone(c.Params)
	if c.Rest != 0 {
		out = append(out, c.Rest)
	}
	for _, k := range c.Kids {
		out = append(out, bound(k)...)
	}
	return out
}
