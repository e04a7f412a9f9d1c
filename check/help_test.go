package check_test

import (
	"slices"
	"strconv"
	"strings"
	"testing"

	"athanor/api"
	"athanor/check"
	"athanor/read"
)

// opNames are the names of instructions, by number.
var opNames = []string{"INone", "IConst", "ILocal", "IGlobal", "ISet", "ISetG", "IDefine", "IClose", "IPush", "IFrame", "ICall", "IReturn", "IJump", "IFalse", "IMark", "IPrim", "IUnset"}

// reader makes a code of a source: "2+: IConst 0, IReturn ['5, x@1, own y, {IReturn}]" is two parameters and a rest, instructions with A and B where they are not 0, and constants: a datum, a cell's name and environment, an own cell's, a code.
type reader struct{ left string }

func codeOf(source string) api.Code {
	r := &reader{source}
	c := r.code()
	if r.left != "" {
		panic(source + ": what is " + r.left)
	}
	return c
}

// has takes a text away, if it stands ahead.
func (r *reader) has(text string) bool {
	r.left = strings.TrimLeft(r.left, " ")
	rest, ok := strings.CutPrefix(r.left, text)
	if ok {
		r.left = rest
	}
	return ok
}

// until takes what stands ahead of any of some letters.
func (r *reader) until(ends string) string {
	n := strings.IndexAny(r.left, ends)
	if n < 0 {
		n = len(r.left)
	}
	out := r.left[:n]
	r.left = r.left[n:]
	return strings.TrimSpace(out)
}

func (r *reader) code() api.Code {
	var c api.Code
	if at, stop := strings.Index(r.left, ":"), strings.IndexAny(r.left, ",[]{}"); at >= 0 && (stop < 0 || at < stop) {
		head := r.until(":")
		r.has(":")
		head, c.Rest = strings.CutSuffix(head, "+")
		c.Need = number(head)
	}
	for text := r.until(",[]{}"); text != ""; text = r.until(",[]{}") {
		c.Ins = append(c.Ins, insOf(text))
		r.has(",")
	}
	if r.has("[") {
		for !r.has("]") {
			c.Consts = append(c.Consts, r.constant())
			r.has(",")
		}
	}
	return c
}

func insOf(text string) api.Ins {
	parts := append(strings.Fields(text), "0", "0")
	op := slices.Index(opNames, parts[0])
	if op < 0 {
		op = number(parts[0])
	}
	return api.Ins{Op: op, A: number(parts[1]), B: number(parts[2])}
}

func (r *reader) constant() api.Const {
	if r.has("{") {
		c := r.code()
		if !r.has("}") {
			panic("a code without an end: " + r.left)
		}
		return inner(c)
	}
	if r.has("'") {
		return datum(r.until(",]"))
	}
	kind := api.KCell
	if r.has("own ") {
		kind = api.KOwn
	}
	name, env, _ := strings.Cut(r.until(",]"), "@")
	return api.Const{Kind: kind, Name: name, Env: number("0" + env)}
}

func number(text string) int {
	n, err := strconv.Atoi(text)
	if err != nil {
		panic(err)
	}
	return n
}

func inner(c api.Code) api.Const { return api.Const{Kind: api.KCode, Code: c} }

// datum is a constant of what a source says: one datum, or none, or some.
func datum(source string) api.Const {
	g, err, _ := read.Read([]byte(source))
	if err != api.OK {
		panic(source)
	}
	return api.Const{Kind: api.KDatum, Datum: g}
}

// name of an answer.
func errName(err api.Errno) string {
	switch err {
	case api.OK:
		return "OK"
	case api.ErrCode:
		return "ErrCode"
	}
	return "error " + strconv.Itoa(int(err))
}

// checkAll holds what Check says of sources, with such ribs around them: each stands ahead of what it wants.
func checkAll(t *testing.T, ribs []int, all ...string) {
	t.Helper()
	for i := 0; i < len(all); i += 2 {
		checkOne(t, all[i], codeOf(all[i]), ribs, all[i+1])
	}
}

func checkOne(t *testing.T, what string, c api.Code, ribs []int, want string) {
	t.Helper()
	if got := errName(check.Check(c, ribs)); got != want {
		t.Errorf("%s, ribs %v: %s, want %s", what, ribs, got, want)
	}
}

// show tells a code as codeOf reads it, as far as it can.
func show(c api.Code) string {
	var ins, consts []string
	for _, i := range c.Ins {
		name := strconv.Itoa(i.Op)
		if i.Op > 0 && i.Op < len(opNames) {
			name = opNames[i.Op]
		}
		ins = append(ins, name+" "+strconv.Itoa(i.A)+" "+strconv.Itoa(i.B))
	}
	for _, k := range c.Consts {
		consts = append(consts, "kind "+strconv.Itoa(k.Kind)+" "+strconv.Quote(k.Name)+"@"+strconv.Itoa(k.Env)+" "+strconv.Itoa(len(k.Datum.Nodes))+"/"+strconv.Itoa(len(k.Datum.Roots))+" {"+show(k.Code)+"}")
	}
	return strconv.Itoa(c.Need) + map[bool]string{true: "+"}[c.Rest] + ": " + strings.Join(ins, ", ") + " [" + strings.Join(consts, ", ") + "]"
}
