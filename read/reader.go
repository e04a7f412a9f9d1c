package read

import (
	"athanor/api"
	"athanor/graph"
)

// reader builds a graph, token by token. What stands where a datum is asked for by its label may not be known yet: till the end such a place is a number below 0, which says the label (placeOf).
type reader struct {
	nodes  []api.Node
	roots  []int
	open   []open
	labels map[int]int // of the outermost datum at hand: by their numbers in the source, which ones they are
	data   []int       // by label: the place of its datum; its own one, while that is not known
}

func newReader() *reader { return &reader{labels: map[int]int{}} }

// placeOf is the place that stands for the datum of a label, and indexOf is which one that is.
func placeOf(index int) int { return -1 - index }
func indexOf(place int) int { return -1 - place }

// follow tells where a datum lies, as far as that is known.
func (r *reader) follow(place int) int {
	for place < 0 {
		next := r.data[indexOf(place)]
		if next == place {
			return place
		}
		place = next
	}
	return place
}

// top is what was opened last, and is open still; nil, if nothing is.
func (r *reader) top() open {
	if len(r.open) == 0 {
		return nil
	}
	return r.open[len(r.open)-1]
}

func (r *reader) push(o open) { r.open = append(r.open, o) }
func (r *reader) pop()        { r.open = r.open[:len(r.open)-1] }

// take reads a token that is not wrong.
func (r *reader) take(t api.Token) {
	switch t.Kind {
	case api.TkOpen:
		r.push(&list{})
	case api.TkVector:
		r.push(&vector{})
	case api.TkBytes:
		r.push(&octets{})
	case api.TkQuote:
		r.push(quote{name: quoteName(t.Text)})
	case api.TkSkip:
		r.push(skip{})
	case api.TkLabel:
		r.takeLabel(t.Num)
	case api.TkDot:
		r.takeDot()
	case api.TkClose:
		r.takeClose()
	case api.TkRef:
		r.put(placeOf(r.labels[t.Num]))
	default:
		r.takeAtom(t)
	}
	// Labels hold within an outermost datum, a skipped one as well as any.
	if len(r.open) == 0 {
		clear(r.labels)
	}
}

// takeLabel opens a label, whose datum is not known yet.
func (r *reader) takeLabel(num int) {
	index := len(r.data)
	r.labels[num] = index
	r.data = append(r.data, placeOf(index))
	r.push(label{index: index})
}

func (r *reader) takeDot() {
	if l, ok := r.top().(*list); ok {
		l.dotted = true
	}
}

// takeClose ends what a bracket began.
func (r *reader) takeClose() {
	top := r.top()
	r.pop()
	switch o := top.(type) {
	case *list:
		r.put(r.addList(o.items, o.tail))
	case *vector:
		r.put(r.add(api.Node{Kind: api.GVector, Kids: o.items}))
	case *octets:
		r.put(r.add(api.Node{Kind: api.GBytes, Text: string(o.data)}))
	}
}

// takeAtom reads a datum that is one token. (The end is none.)
func (r *reader) takeAtom(t api.Token) {
	switch t.Kind {
	case api.TkBool:
		r.put(r.add(api.Node{Kind: api.GBool, Num: t.Num}))
	case api.TkInt:
		r.put(r.add(api.Node{Kind: api.GInt, Text: t.Text}))
	case api.TkChar:
		r.put(r.add(api.Node{Kind: api.GChar, Num: t.Num}))
	case api.TkString:
		r.put(r.add(api.Node{Kind: api.GString, Text: t.Text}))
	case api.TkSym:
		r.put(r.add(api.Node{Kind: api.GSym, Text: t.Text}))
	}
}

// put hands a whole datum to what waits for it. Quotes and labels are whole by it, too, and are handed on.
func (r *reader) put(place int) {
	for len(r.open) > 0 {
		switch o := r.top().(type) {
		case *list:
			o.put(place)
			return
		case *vector:
			o.items = append(o.items, place)
			return
		case *octets:
			value, _ := byteOf(r.nodes[place].Text)
			o.data = append(o.data, value)
			return
		case quote:
			place = r.addList([]int{r.add(api.Node{Kind: api.GSym, Text: o.name}), place}, nil)
		case label:
			r.data[o.index] = place
		case skip:
			r.pop()
			return
		}
		r.pop()
	}
	r.roots = append(r.roots, place)
}

// put lays a datum ahead of the dot, or behind it.
func (l *list) put(place int) {
	if l.dotted {
		l.tail = append(l.tail, place)
		return
	}
	l.items = append(l.items, place)
}

// add lays a node, and tells its place.
func (r *reader) add(n api.Node) int {
	r.nodes = append(r.nodes, n)
	return len(r.nodes) - 1
}

// addList lays the pairs of a list, and GNull, if it has no tail.
func (r *reader) addList(items, tail []int) int {
	var place int
	if len(tail) > 0 {
		place = tail[0]
	} else {
		place = r.add(api.Node{Kind: api.GNull})
	}
	for i := len(items) - 1; i >= 0; i-- {
		place = r.add(api.Node{Kind: api.GPair, Kids: []int{items[i], place}})
	}
	return place
}

// graph is what was read, when nothing is open any more: every label's datum is known.
func (r *reader) graph() api.Graph {
	for _, n := range r.nodes {
		r.settle(n.Kids)
	}
	r.settle(r.roots)
	return graph.Canon(api.Graph{Nodes: r.nodes, Roots: r.roots})
}

// settle puts the data's places where labels stand for them.
func (r *reader) settle(places []int) {
	for i, place := range places {
		places[i] = r.follow(place)
	}
}

// quoteName is the name that a sign stands for.
func quoteName(sign string) string {
	switch sign {
	case "'":
		return "quote"
	case "`":
		return "quasiquote"
	case ",":
		return "unquote"
	}
	return "unquote-splicing"
}
