package print

import "athanor/api"

// begun is a node whose text has begun: its kids ahead of next are written.
type begun struct{ place, next int }

// writer writes a node's text. What has begun lies on a stack of its own, the innermost on top.
type writer struct {
	nodes  []api.Node
	show   bool
	labels map[int]int // by place, of nodes that have a label: its number, or unset
	given  int         // labels that have a number
	begun  []begun
	out    []byte
}

// write writes a node's text. It stops where that is too long, so that a long name that is met often takes no more room.
func (w *writer) write(n int) {
	w.begin(n)
	for len(w.begun) > 0 && len(w.out) <= api.MaxText {
		w.goOn()
	}
}

// begin writes a node's text as far as its first kid, or all of it, if it has no kids that are written; if it stands already, its label alone.
func (w *writer) begin(place int) {
	if w.label(place) {
		return
	}
	node := w.nodes[place]
	switch node.Kind {
	case api.GPair, api.GVector, api.GCond, api.GValues:
		w.put(opening(node.Kind))
		w.begun = append(w.begun, begun{place: place})
	default:
		w.put(textOf(node, w.show))
	}
}

// label writes a node's label, if it has one, and tells whether the node's text stands already.
func (w *writer) label(place int) bool {
	num, ok := w.labels[place]
	if !ok {
		return false
	}
	if num != unset {
		w.put(spell(api.TkRef, num, ""))
		return true
	}
	w.put(spell(api.TkLabel, w.given, ""))
	w.labels[place] = w.given
	w.given++
	return false
}

// goOn writes the next kid of the innermost node, or closes it.
func (w *writer) goOn() {
	top := &w.begun[len(w.begun)-1]
	node := w.nodes[top.place]
	switch {
	case top.next == len(node.Kids):
		w.put(closing(node.Kind))
		w.begun = w.begun[:len(w.begun)-1]
	case node.Kind == api.GPair && top.next == 1:
		w.cdr(top, node.Kids[1])
	default:
		w.put(between(node.Kind, top.next))
		top.next++
		w.begin(node.Kids[top.next-1])
	}
}

// cdr goes on with a pair that has no label in the place of the one whose cdr it is, so that a long list is not deep; all else that is not the list's end stands behind a dot.
func (w *writer) cdr(top *begun, place int) {
	_, labelled := w.labels[place]
	switch kind := w.nodes[place].Kind; {
	case kind == api.GPair && !labelled:
		w.put(" ")
		*top = begun{place: place}
	case kind == api.GNull:
		top.next = 2
	default:
		w.put(" . ")
		top.next = 2
		w.begin(place)
	}
}

func (w *writer) put(text string) { w.out = append(w.out, text...) }
