package read

import (
	"fmt"
	"math/rand"
	"slices"
	"strconv"
	"strings"
	"testing"

	"athanor/api"
	"athanor/lex"
)

// thing is a datum of the oracle: pointers tell what is one thing. A label's place is a thing whose datum (is) comes later.
type thing struct {
	kind, num int
	text      string
	kids      []*thing
	is        *thing
}

// real is the datum behind labels; a label's own place, while there is none.
func (d *thing) real() *thing {
	for d.is != nil {
		d = d.is
	}
	return d
}

// where says what stands around the next token.
type where int

const (
	outside  where = iota // of all
	must                  // behind a quote, a label, a skip, a dot: a datum must come
	inEmpty               // a list without a datum
	inList                // a list with one at least
	inTail                // a list, behind the dot and its datum
	inVector              // a vector
	inBytes               // bytes
)

// fault is what is wrong, and where: the oracle panics with it.
type fault struct {
	err   api.Errno
	place int
}

// oracle is the chapter a second time: by calls within one another.
type oracle struct {
	source []byte
	at     int
	labels map[int]*thing
	roots  []*thing
}

// peek is the next token.
func (o *oracle) peek() api.Token {
	t, err, place := lex.Next(o.source, o.at)
	if err != api.OK {
		panic(fault{err, place})
	}
	return t
}

// check panics with the first thing of the chapter's list that is wrong with the next token. own are the places of the labels whose datum it begins.
func (o *oracle) check(w where, depth, count int, own []*thing) {
	t := o.peek()
	closing, skipping := t.Kind == api.TkClose, t.Kind == api.TkSkip
	cell := o.labels[t.Num]
	small := false
	if t.Kind == api.TkInt {
		n, err := strconv.Atoi(t.Text)
		small = err == nil && n >= 0 && n <= 255
	}
	for _, c := range []struct {
		err api.Errno
		bad bool
	}{
		{api.ErrClose, closing && (w == must || w == outside)},
		{api.ErrEnd, t.Kind == api.TkEnd && w != outside},
		{api.ErrDot, t.Kind == api.TkDot && w != inList || w == inTail && !closing && !skipping},
		{api.ErrLabel, t.Kind == api.TkLabel && cell != nil},
		{api.ErrLabel, t.Kind == api.TkRef && (cell == nil || slices.Contains(own, cell.real()))},
		{api.ErrByte, w == inBytes && !closing && !skipping && !small},
		{api.ErrLong, closing && (w == inVector || w == inBytes) && count > 1024},
		{api.ErrDeep, slices.Contains([]int{api.TkOpen, api.TkVector, api.TkBytes, api.TkQuote, api.TkLabel, api.TkSkip}, t.Kind) && depth >= 200},
	} {
		if c.bad {
			panic(fault{c.err, t.From})
		}
	}
}

// next reads the next datum, behind what is skipped; nil, if a dot, a closing or the end comes.
func (o *oracle) next(w where, depth, count int, own []*thing) *thing {
	for {
		o.check(w, depth, count, own)
		t := o.peek()
		if t.Kind == api.TkClose || t.Kind == api.TkDot || t.Kind == api.TkEnd {
			return nil
		}
		o.at = t.To
		if t.Kind != api.TkSkip {
			return o.datum(t, depth, own)
		}
		o.next(must, depth+1, 0, nil)
		if w == outside {
			o.labels = map[int]*thing{}
		}
	}
}

// datum reads the datum that a token begins.
func (o *oracle) datum(t api.Token, depth int, own []*thing) *thing {
	switch t.Kind {
	case api.TkOpen:
		return o.list(depth + 1)
	case api.TkVector:
		return &thing{kind: api.GVector, kids: o.items(inVector, depth+1)}
	case api.TkBytes:
		var text []byte
		for _, i := range o.items(inBytes, depth+1) {
			n, _ := strconv.Atoi(i.text)
			text = append(text, byte(n))
		}
		return &thing{kind: api.GBytes, text: string(text)}
	case api.TkQuote:
		name := map[string]string{"'": "quote", "`": "quasiquote", ",": "unquote", ",@": "unquote-splicing"}[t.Text]
		return pair(&thing{kind: api.GSym, text: name}, pair(o.next(must, depth+1, 0, nil), null()))
	case api.TkLabel:
		cell := &thing{}
		o.labels[t.Num] = cell
		cell.is = o.next(must, depth+1, 0, append(slices.Clone(own), cell))
		return cell
	case api.TkRef:
		return o.labels[t.Num]
	}
	return &thing{kind: map[int]int{api.TkBool: api.GBool, api.TkInt: api.GInt, api.TkChar: api.GChar, api.TkString: api.GString, api.TkSym: api.GSym}[t.Kind], num: t.Num, text: t.Text}
}

func null() *thing            { return &thing{kind: api.GNull} }
func pair(a, b *thing) *thing { return &thing{kind: api.GPair, kids: []*thing{a, b}} }

// items reads data as far as a closing, and that.
func (o *oracle) items(w where, depth int) []*thing {
	var all []*thing
	for {
		d := o.next(w, depth, len(all), nil)
		if d == nil {
			o.at = o.peek().To
			return all
		}
		all = append(all, d)
	}
}

func (o *oracle) list(depth int) *thing {
	var all []*thing
	end := null()
	for w := inEmpty; ; w = inList {
		if d := o.next(w, depth, 0, nil); d != nil {
			all = append(all, d)
			continue
		}
		break
	}
	if t := o.peek(); t.Kind == api.TkDot {
		o.at = t.To
		end = o.next(must, depth, 0, nil)
		o.next(inTail, depth, 0, nil)
	}
	o.at = o.peek().To
	for _, d := range slices.Backward(all) {
		end = pair(d, end)
	}
	return end
}

// asked runs a part of the oracle, and tells what was wrong.
func asked(part func()) (f fault) {
	defer func() {
		if p := recover(); p != nil {
			f = p.(fault)
		}
	}()
	part()
	return fault{}
}

// readWords is Read by the chapter's words.
func readWords(source string) (api.Graph, fault) {
	if _, err, place := lex.Tokens([]byte(source)); err != api.OK {
		return api.Graph{}, fault{err, place}
	}
	o := &oracle{source: []byte(source)}
	f := asked(func() {
		for o.first() {
		}
	})
	if f.err != api.OK {
		return api.Graph{}, f
	}
	return o.graph(), f
}

// firstWords is First by the chapter's words.
func firstWords(source string, at int) (api.Graph, int, fault) {
	o := &oracle{source: []byte(source), at: at}
	f := asked(func() {
		if !o.first() {
			o.at = len(source)
		}
	})
	if f.err != api.OK {
		return api.Graph{}, 0, f
	}
	return o.graph(), o.at, f
}

// first reads one outermost datum, if there is one.
func (o *oracle) first() bool {
	o.labels = map[int]*thing{}
	d := o.next(outside, 0, 0, nil)
	if d != nil {
		o.roots = append(o.roots, d)
	}
	return d != nil
}

// graph numbers the things in the order in which they are met.
func (o *oracle) graph() api.Graph {
	var g api.Graph
	places, atoms := map[*thing]int{}, map[string]int{}
	var meet func(d *thing) int
	meet = func(d *thing) int {
		d = d.real()
		if p, ok := places[d]; ok {
			return p
		}
		p := len(g.Nodes)
		if !slices.Contains([]int{api.GString, api.GPair, api.GVector, api.GBytes}, d.kind) {
			key := fmt.Sprint(d.kind, d.num, d.text)
			if first, ok := atoms[key]; ok {
				return first
			}
			atoms[key] = p
		}
		places[d] = p
		g.Nodes = append(g.Nodes, api.Node{Kind: d.kind, Num: d.num, Text: d.text})
		var kids []int
		for _, k := range d.kids {
			kids = append(kids, meet(k))
		}
		g.Nodes[p].Kids = kids
		return p
	}
	for _, d := range o.roots {
		g.Roots = append(g.Roots, meet(d))
	}
	return g
}

// identical tells whether two graphs are the same, place for place.
func identical(a, b api.Graph) bool {
	return slices.Equal(a.Roots, b.Roots) && slices.EqualFunc(a.Nodes, b.Nodes, func(x, y api.Node) bool {
		return x.Kind == y.Kind && x.Num == y.Num && x.Text == y.Text && slices.Equal(x.Kids, y.Kids)
	})
}

// expectRead holds what Read answers against the oracle.
func expectRead(t *testing.T, source string) {
	t.Helper()
	g, err, place := Read([]byte(source))
	want, f := readWords(source)
	if !identical(g, want) || err != f.err || place != f.place {
		t.Fatalf("Read(%.300q):\n%v, %d at %d\nnot\n%v, %d at %d", source, g, err, place, want, f.err, f.place)
	}
}

// expectFirst holds what First answers against the oracle.
func expectFirst(t *testing.T, source string, at int) {
	t.Helper()
	g, end, err, place := First([]byte(source), at)
	want, wantEnd, f := firstWords(source, at)
	if !identical(g, want) || end != wantEnd || err != f.err || place != f.place {
		t.Fatalf("First(%.300q, %d):\n%v, to %d, %d at %d\nnot\n%v, to %d, %d at %d", source, at, g, end, err, place, want, wantEnd, f.err, f.place)
	}
}

// mustRead reads a source that has nothing wrong.
func mustRead(t *testing.T, source string) api.Graph {
	t.Helper()
	g, err, place := Read([]byte(source))
	if err != api.OK || place != 0 {
		t.Fatalf("Read(%.300q): %d at %d", source, err, place)
	}
	return g
}

// expectSame asks that two sources have the same data.
func expectSame(t *testing.T, a, b string) {
	t.Helper()
	if g, h := mustRead(t, a), mustRead(t, b); !identical(g, h) {
		t.Fatalf("%.300q: %v\n%.300q: %v", a, g, b, h)
	}
}

// expectFault asks for an error of Read, and of First, where all that is wrong stands in the first datum.
func expectFault(t *testing.T, source string, want api.Errno, wantPlace int) {
	t.Helper()
	if g, err, place := Read([]byte(source)); err != want || place != wantPlace || len(g.Nodes)+len(g.Roots) != 0 {
		t.Errorf("Read(%.60q): %.200v, %d at %d, not %d at %d", source, g, err, place, want, wantPlace)
	}
	if g, end, err, place := First([]byte(source), 0); err != want || place != wantPlace || end != 0 || len(g.Nodes)+len(g.Roots) != 0 {
		t.Errorf("First(%.60q, 0): %.200v, to %d, %d at %d, not %d at %d", source, g, end, err, place, want, wantPlace)
	}
}

// grown is a random source with nothing wrong in brackets: data within one another, with what is skipped, and labels, some of them asked for. In long quotes are written out as lists.
type grown struct {
	r           *rand.Rand
	short, long strings.Builder
	made        int
}

func (g *grown) put(both ...string) {
	for _, s := range both {
		g.short.WriteString(s + " ")
		g.long.WriteString(s + " ")
	}
}

// atoms are data of one token.
var atoms = []string{"a", "b", "quote", "λ", "...", "0", "-7", "+255", "99999999999999999999", "#t", "#false", `#\a`, `#\x3bb`, `""`, `"x y"`, `"\n"`}

// datum grows one datum; open are labels whose datum it is.
func (g *grown) datum(deep int, open []int) {
	if g.r.Intn(8) == 0 {
		g.skip(deep)
	}
	kind := g.r.Intn(12)
	if deep > 4 {
		kind %= 5
	}
	switch {
	case kind < 4:
		g.put(atoms[g.r.Intn(len(atoms))])
	case kind == 4:
		g.ask(open)
	case kind < 8:
		g.list(deep)
	case kind == 8:
		g.row("#(", deep)
	case kind == 9:
		g.bytes(deep)
	case kind == 10:
		signs := []string{"'", "`", ",", ",@"}
		names := []string{"quote", "quasiquote", "unquote", "unquote-splicing"}
		i := g.r.Intn(4)
		g.short.WriteString(signs[i])
		g.long.WriteString("(" + names[i] + " ")
		g.datum(deep+1, nil)
		g.long.WriteString(") ")
	default:
		n := g.made
		g.made++
		g.put(fmt.Sprintf("#%d=", n))
		g.datum(deep+1, append(slices.Clone(open), n))
	}
}

// ask grows #n# of some label that is not the datum's own. (Of own ones those at the end of open count alone: the oracle knows about the rest.)
func (g *grown) ask(open []int) {
	if n := g.made; n > len(open) {
		if i := g.r.Intn(n); !slices.Contains(open, i) {
			g.put(fmt.Sprintf("#%d#", i))
			return
		}
	}
	g.put("none")
}

func (g *grown) skip(deep int) {
	g.put("#;")
	g.datum(deep+1, nil)
}

func (g *grown) row(bracket string, deep int) {
	g.put(bracket)
	for n := g.r.Intn(4); n > 0; n-- {
		g.datum(deep+1, nil)
	}
	if g.r.Intn(8) == 0 {
		g.skip(deep + 1)
	}
	g.put(")")
}

func (g *grown) list(deep int) {
	if g.r.Intn(3) > 0 {
		g.row("(", deep)
		return
	}
	g.put("(")
	for n := 1 + g.r.Intn(3); n > 0; n-- {
		g.datum(deep+1, nil)
	}
	g.put(".")
	g.datum(deep+1, nil)
	if g.r.Intn(8) == 0 {
		g.skip(deep + 1)
	}
	g.put(")")
}

func (g *grown) bytes(deep int) {
	g.put("#u8(")
	for n := g.r.Intn(4); n > 0; n-- {
		g.put(strconv.Itoa(g.r.Intn(256)))
		if g.r.Intn(8) == 0 {
			g.skip(deep + 1)
		}
	}
	g.put(")")
}

// grow is a random source of some data, and the same with quotes written out, both without anything wrong.
func grow(r *rand.Rand, data int) (string, string) {
	for {
		g := &grown{r: r}
		for range data {
			g.made = 0
			g.datum(0, nil)
			g.put("\n")
		}
		if _, f := readWords(g.short.String()); f.err == api.OK {
			return g.short.String(), g.long.String()
		}
	}
}

// signs are the tokens that random sources are put together of.
var signs = []string{
	"(", "(", ")", ")", ")", "#(", "#u8(", "'", "`", ",", ",@", ".", "#;", "#;", "#0=", "#0#", "#1=", "#1#", "#2=", "#00#",
	"a", "b", "()", "1", "255", "256", "-1", "-0", "#t", "#\\a", `"a"`, `""`, "; r\n", "#| ( |#", "[", "\"", "#\\xx",
}

// randomSource is a source of some signs, whatever comes of it.
func randomSource(r *rand.Rand, most int) string {
	var all []string
	for range r.Intn(most) {
		all = append(all, signs[r.Intn(len(signs)-3*(1-r.Intn(4)/3))])
	}
	return strings.Join(all, " ")
}
