package store_test

import (
	"math/big"
	"slices"
	"strconv"
	"unicode/utf8"

	"athanor/api"
	"athanor/word"
)

// The chapter written out a second time: graphs are met by calls within one another, what was met is looked through.

// canonOf is a good graph's Canon (2).
func canonOf(g api.Graph) api.Graph {
	m := meeting{}
	var meet func(p int) int
	meet = func(p int) int {
		n := g.Nodes[p]
		place, first := m.meet(p, n)
		if first {
			for _, kid := range n.Kids {
				kid = meet(kid)
				m.nodes[place].Kids = append(m.nodes[place].Kids, kid)
			}
		}
		return place
	}
	var roots []int
	for _, root := range g.Roots {
		roots = append(roots, meet(root))
	}
	return api.Graph{Nodes: m.nodes, Roots: roots}
}

// meeting is what was met: nodes, and of what they are (an old place, a word).
type meeting struct {
	nodes []api.Node
	of    []int
}

// meet tells the place of what is met, and whether it is met for the first time; atoms that have the same are one.
func (m *meeting) meet(what int, n api.Node) (int, bool) {
	for place, other := range m.nodes {
		if m.of[place] == what || isAtom(n.Kind) && n.Kind == other.Kind && n.Num == other.Num && n.Text == other.Text {
			return place, false
		}
	}
	n.Kids = nil
	m.nodes, m.of = append(m.nodes, n), append(m.of, what)
	return len(m.nodes) - 1, true
}

// names are a table's texts; those that are asked for are put at the end.
type names []string

func (t *names) id(s string) int {
	if n := slices.Index(*t, s); n >= 0 {
		return n
	}
	*t = append(*t, s)
	return len(*t) - 1
}

// putOf is the row of objects of a good graph, laid from a place on, and the words of its roots.
func putOf(g api.Graph, t *names, at int) (row, roots []api.Word) {
	c := canonOf(g)
	var words []api.Word
	for _, n := range c.Nodes {
		w, size := wordOf(n, t)
		if size >= 0 {
			w = pointer(at)
			at += 1 + size
		}
		words = append(words, w)
	}
	for _, n := range c.Nodes {
		row = append(row, objectOf(n, words)...)
	}
	for _, root := range c.Roots {
		roots = append(roots, words[root])
	}
	return row, roots
}

// wordOf is the word of a node that has no object, or how many fields its object has; -1, if it has none.
func wordOf(n api.Node, t *names) (api.Word, int) {
	switch n.Kind {
	case api.GNull:
		return word.Null, -1
	case api.GBool:
		return []api.Word{word.False, word.True}[n.Num], -1
	case api.GEof:
		return word.Eof, -1
	case api.GVoid:
		return word.Void, -1
	case api.GInt:
		if fields := bigFields(n.Text); fields != nil {
			return 0, len(fields)
		}
		x, _ := strconv.Atoi(n.Text)
		return fix(x), -1
	case api.GChar:
		return charWord(n.Num), -1
	case api.GSym:
		return nameWord(t.id(n.Text)), -1
	case api.GString:
		return 0, len([]rune(n.Text))
	case api.GBytes:
		return 0, len(n.Text)
	}
	return 0, len(n.Kids)
}

// objectOf is a node's object, if it has one, with its head.
func objectOf(n api.Node, words []api.Word) []api.Word {
	var fields []api.Word
	kind := 0
	switch n.Kind {
	case api.GInt:
		fields = bigFields(n.Text)
		if fields == nil {
			return nil
		}
		kind = api.TBig
	case api.GString:
		kind = api.TString
		for _, r := range []rune(n.Text) {
			fields = append(fields, charWord(int(r)))
		}
	case api.GBytes:
		kind = api.TBytes
		for _, b := range []byte(n.Text) {
			fields = append(fields, fix(int(b)))
		}
	case api.GPair, api.GVector:
		kind = map[int]int{api.GPair: api.TPair, api.GVector: api.TVector}[n.Kind]
		for _, kid := range n.Kids {
			fields = append(fields, words[kid])
		}
	default:
		return nil
	}
	return append([]api.Word{head(kind, len(fields))}, fields...)
}

// object is an object of a heap's model: objects that lie one behind the other.
type object struct {
	kind   int
	fields []api.Word
}

type objects []object

// place is where an object begins; of as many as there are, where what is used ends.
func (all objects) place(n int) int {
	at := 0
	for _, o := range all[:n] {
		at += 1 + len(o.fields)
	}
	return at
}

// find is the object whose place a word says; of none one of a type that is none.
func (all objects) find(w api.Word) object {
	for n, o := range all {
		if w == pointer(all.place(n)) {
			return o
		}
	}
	return object{}
}

// showOf is the graph that hangs on words.
func (all objects) showOf(t names, roots []api.Word) api.Graph {
	m := meeting{}
	var meet func(w api.Word) int
	meet = func(w api.Word) int {
		n, kids := all.nodeOf(t, w)
		place, first := m.meet(int(w), n)
		if first {
			for _, kid := range kids {
				p := meet(kid)
				m.nodes[place].Kids = append(m.nodes[place].Kids, p)
			}
		}
		return place
	}
	var out []int
	for _, w := range roots {
		out = append(out, meet(w))
	}
	return api.Graph{Nodes: m.nodes, Roots: out}
}

// nodeOf is the node of a word, and its kids' words.
func (all objects) nodeOf(t names, w api.Word) (api.Node, []api.Word) {
	o := all.find(w)
	if text, ok := procsAndOthers()[o.kind]; ok {
		return text, nil
	}
	switch {
	case o.kind == 0:
		return plainOf(t, w), nil
	case o.kind == api.TPair && len(o.fields) == 2:
		return node(api.GPair, 0, ""), o.fields
	case o.kind == api.TVector && len(o.fields) <= 1024:
		return node(api.GVector, 0, ""), o.fields
	case o.kind == api.TValues:
		return node(api.GValues, 0, ""), o.fields
	case o.kind == api.TCond && len(o.fields) == 3 && o.fields[0]%8 == 0 && o.fields[0]/8 <= 2:
		return node(api.GCond, int(o.fields[0]/8), ""), o.fields[1:]
	case o.kind == api.TRecord && len(o.fields) > 0:
		return all.recordOf(t, o.fields)
	}
	return rowNode(o), nil
}

// procsAndOthers are the nodes of types of which no field counts.
func procsAndOthers() map[int]api.Node {
	proc := node(api.GProc, 0, "")
	return map[int]api.Node{
		api.TClosure: proc, api.TCont: proc, api.TParam: proc, api.TRecProc: proc,
		api.TEnv: node(api.GEnv, 0, ""), api.TPort: node(api.GPort, 0, ""),
		api.TRecType: node(api.GRecord, 0, "record-type"), api.TTable: node(api.GRecord, 0, "table"),
	}
}

func (all objects) recordOf(t names, fields []api.Word) (api.Node, []api.Word) {
	if kind := all.find(fields[0]); kind.kind == api.TRecType && len(kind.fields) > 0 {
		for n, s := range t {
			if kind.fields[0] == nameWord(n) && utf8.ValidString(s) {
				return node(api.GRecord, 0, s), fields[1:]
			}
		}
	}
	return void(), nil
}

// plainOf is the node of a word that says no object's place.
func plainOf(t names, w api.Word) api.Node {
	above := int(w / 256)
	switch {
	case w%8 == 0:
		return integer(strconv.FormatInt(int64(w)/8, 10))
	case w == word.Null:
		return null()
	case w == word.False, w == word.True:
		return node(api.GBool, int(w-word.False)/8, "")
	case w == word.Eof:
		return node(api.GEof, 0, "")
	case w%256 == charWord(0) && (above < 0xd800 || 0xdfff < above && above <= 0x10ffff):
		return letter(above)
	case w%256 == nameWord(0) && above < len(t) && t[above] != "" && utf8.ValidString(t[above]):
		return symbol(t[above])
	case w%256 == primWord(0) && above <= 1<<30:
		return node(api.GProc, 0, "")
	}
	return void()
}

// rowNode is the node of an object that is a row of letters, bytes, limbs.
func rowNode(o object) api.Node {
	var runes []rune
	var row []byte
	for _, w := range o.fields {
		switch {
		case o.kind == api.TString && plainOf(nil, w).Kind == api.GChar:
			runes = append(runes, rune(w/256))
		case o.kind == api.TBytes && w%8 == 0 && w/8 < 256:
			row = append(row, byte(w/8))
		case o.kind == api.TBig && w%8 == 0 && w/8 < 1<<32:
		default:
			return void()
		}
	}
	switch {
	case o.kind == api.TString && len(o.fields) <= 1024:
		return text(string(runes))
	case o.kind == api.TBytes && len(o.fields) <= 1024:
		return bytes(string(row))
	case o.kind == api.TBig:
		return bigNode(o.fields)
	}
	return void()
}

// bigNode is the node of the one row of fields that some integer is laid as.
func bigNode(fields []api.Word) api.Node {
	x := new(big.Int)
	for _, w := range slices.Backward(fields[min(1, len(fields)):]) {
		x.Add(x.Lsh(x, 32), new(big.Int).SetUint64(uint64(w/8)))
	}
	if len(fields) > 0 && fields[0] == fix(1) {
		x.Neg(x)
	}
	if len(fields) > 41 || len(fields) == 0 || !slices.Equal(bigFields(x.String()), fields) {
		return void()
	}
	return integer(x.String())
}
