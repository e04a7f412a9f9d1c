package emit_test

import (
	"slices"
	"strconv"
	"strings"
	"testing"

	"athanor/api"
	"athanor/emit"
	"athanor/graph"
	"athanor/print"
	"athanor/read"
)

func app(kids ...api.Core) api.Core { return api.Core{Op: api.CApp, Kids: kids} }
func seq(kids ...api.Core) api.Core { return api.Core{Op: api.CSeq, Kids: kids} }
func prim(n int) api.Core           { return api.Core{Op: api.CPrim, Num: n} }
func local(n int) api.Core          { return api.Core{Op: api.CLocal, Var: n} }
func global(name string) api.Core   { return api.Core{Op: api.CGlobal, Name: name} }
func unset() api.Core               { return api.Core{Op: api.CUnset} }
func set(n int, e api.Core) api.Core {
	return api.Core{Op: api.CSet, Var: n, Kids: []api.Core{e}}
}
func setGlobal(name string, e api.Core) api.Core {
	return api.Core{Op: api.CSetG, Name: name, Kids: []api.Core{e}}
}
func define(name string, e api.Core) api.Core {
	return api.Core{Op: api.CDefine, Name: name, Kids: []api.Core{e}}
}
func choice(a, b, c api.Core) api.Core { return api.Core{Op: api.CIf, Kids: []api.Core{a, b, c}} }
func mark(a, b, c api.Core) api.Core   { return api.Core{Op: api.CMark, Kids: []api.Core{a, b, c}} }
func lambda(params []int, rest int, body api.Core) api.Core {
	return api.Core{Op: api.CLambda, Params: params, Rest: rest, Kids: []api.Core{body}}
}
func number(n int) api.Core {
	return api.Core{Op: api.CConst, Datum: api.Graph{Nodes: []api.Node{{Kind: api.GInt, Text: strconv.Itoa(n)}}, Roots: []int{0}}}
}

// reader makes core forms of a source: 1 is a local, x or x@3 a global (of environment 3), :car a primitive, 'd a constant, unset CUnset, and (lambda (1 2 . 3) b), (set 1 e), (set x e), (define x e), (if a b c), (seq a b), (mark a b c), (app a b f) what they say, an operator last.
type reader struct{ api.Graph }

// coreOf is the core form of a source.
func coreOf(source string) api.Core {
	g, err, place := read.Read([]byte(source))
	if err != api.OK || len(g.Roots) != 1 {
		panic(source + ": error " + strconv.Itoa(int(err)) + " at " + strconv.Itoa(place))
	}
	return reader{g}.core(g.Roots[0])
}

func (r reader) core(at int) api.Core {
	n := r.Nodes[at]
	switch {
	case n.Kind == api.GInt:
		return local(r.number(at))
	case n.Kind == api.GSym && n.Text == "unset":
		return unset()
	case n.Kind == api.GSym && strings.HasPrefix(n.Text, ":"):
		return prim(slices.Index(api.Prims[:], n.Text[1:]))
	case n.Kind == api.GSym:
		c := global("")
		c.Name, c.Env = r.name(at)
		return c
	}
	return r.list(at)
}

func (r reader) list(at int) api.Core {
	kids, _ := r.row(at)
	switch what := r.Nodes[kids[0]].Text; what {
	case "quote":
		return api.Core{Op: api.CConst, Datum: graph.Canon(api.Graph{Nodes: r.Nodes, Roots: kids[1:]})}
	case "lambda":
		params, rest := r.row(kids[1])
		c := lambda(nil, 0, r.core(kids[2]))
		for _, p := range params {
			c.Params = append(c.Params, r.number(p))
		}
		if r.Nodes[rest].Kind == api.GInt {
			c.Rest = r.number(rest)
		}
		return c
	case "set", "define":
		c := api.Core{Op: api.CSet, Kids: []api.Core{r.core(kids[2])}}
		if r.Nodes[kids[1]].Kind == api.GInt {
			c.Var = r.number(kids[1])
			return c
		}
		c.Op = map[string]int{"set": api.CSetG, "define": api.CDefine}[what]
		c.Name, c.Env = r.name(kids[1])
		return c
	default:
		c := api.Core{Op: map[string]int{"if": api.CIf, "seq": api.CSeq, "app": api.CApp, "mark": api.CMark}[what]}
		for _, k := range kids[1:] {
			c.Kids = append(c.Kids, r.core(k))
		}
		return c
	}
}

// row is what stands in a list, and its end.
func (r reader) row(at int) (all []int, end int) {
	for r.Nodes[at].Kind == api.GPair {
		all = append(all, r.Nodes[at].Kids[0])
		at = r.Nodes[at].Kids[1]
	}
	return all, at
}

func (r reader) number(at int) int {
	n, err := strconv.Atoi(r.Nodes[at].Text)
	if err != nil {
		panic(err)
	}
	return n
}

func (r reader) name(at int) (string, int) {
	name, env, _ := strings.Cut(r.Nodes[at].Text, "@")
	n, _ := strconv.Atoi(env)
	return name, n
}

// names of instructions, by number.
func insName(op int) string {
	all := []string{"?", "IConst", "ILocal", "IGlobal", "ISet", "ISetG", "IDefine", "IClose", "IPush", "IFrame", "ICall", "IReturn", "IJump", "IFalse", "IMark", "IPrim", "IUnset"}
	if op < 0 || op >= len(all) {
		op = 0
	}
	return all[op]
}

// showIns tells an instruction: numbers that it may have, or has.
func showIns(i api.Ins) string {
	out := insName(i.Op)
	two := i.Op == api.ILocal || i.Op == api.ISet
	none := slices.Contains([]int{api.IPush, api.IReturn, api.IMark, api.IUnset}, i.Op)
	if !none || i.A != 0 || i.B != 0 {
		out += " " + strconv.Itoa(i.A)
	}
	if two || i.B != 0 {
		out += " " + strconv.Itoa(i.B)
	}
	return out
}

// show tells a code: its instructions, and its constants in brackets; ahead of them its parameters, if it has some.
func show(c api.Code) string {
	var ins, consts []string
	for _, i := range c.Ins {
		ins = append(ins, showIns(i))
	}
	for _, k := range c.Consts {
		consts = append(consts, showConst(k))
	}
	out := strings.Join(ins, ", ")
	if c.Need != 0 || c.Rest {
		out = strconv.Itoa(c.Need) + map[bool]string{true: "+"}[c.Rest] + ": " + out
	}
	if len(consts) > 0 {
		out += " [" + strings.Join(consts, ", ") + "]"
	}
	return out
}

// showConst tells a constant; it must have nothing that its kind has not.
func showConst(k api.Const) string {
	rest := k
	out := ""
	switch k.Kind {
	case api.KDatum:
		out, rest.Datum = "'"+written(k.Datum), api.Graph{}
	case api.KCell, api.KOwn:
		out, rest.Name, rest.Env = k.Name, "", 0
		if k.Env != 0 {
			out += "@" + strconv.Itoa(k.Env)
		}
		if k.Kind == api.KOwn {
			out = "own " + out
		}
	case api.KCode:
		out, rest.Code = "{"+show(k.Code)+"}", api.Code{}
	default:
		out = "kind " + strconv.Itoa(k.Kind)
	}
	if len(rest.Datum.Nodes)+len(rest.Datum.Roots)+rest.Env+len(rest.Name)+rest.Code.Need+len(rest.Code.Consts)+len(rest.Code.Ins) != 0 || rest.Code.Rest {
		return out + " and more"
	}
	return out
}

// written is a datum as it is printed.
func written(g api.Graph) string {
	if len(g.Roots) != 1 {
		return "!" + strconv.Itoa(len(g.Roots)) + " roots!"
	}
	out, err := print.Print(g, g.Roots[0], false)
	if err != api.OK {
		return "!none!"
	}
	return out
}

// answer is what Emit tells, as text; beside an error there is nothing.
func answer(c api.Core) string {
	code, err := emit.Emit(c)
	return told(code, err)
}

func told(code api.Code, err api.Errno) string {
	if err != api.OK {
		out := map[api.Errno]string{api.ErrSyntax: "ErrSyntax", api.ErrFull: "ErrFull"}[err]
		if out == "" || len(code.Ins)+len(code.Consts)+code.Need != 0 || code.Rest {
			return "error " + strconv.Itoa(int(err)) + ", or something beside it"
		}
		return out
	}
	return show(code)
}

// checkAll holds what Emit tells of sources: each stands ahead of what it wants.
func checkAll(t *testing.T, all ...string) {
	t.Helper()
	for i := 0; i < len(all); i += 2 {
		if got := answer(coreOf(all[i])); got != all[i+1] {
			t.Errorf("%s:\n%s, want\n%s", all[i], got, all[i+1])
		}
	}
}
