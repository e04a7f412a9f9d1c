package graph

import "athanor/api"

// atom is all that an atom has: two atoms are one thing if these are equal.
type atom struct {
	kind, num int
	text      string
}

// unmet stands for the new place of a node that was not met yet.
const unmet = -1

// walk goes through a good graph and numbers the nodes that it meets.
type walk struct {
	graph  api.Graph
	places []int        // by old place, the new one, or unmet
	order  []int        // by new place, the old one
	atoms  map[atom]int // new places
}

// newWalk has met nothing.
func newWalk(g api.Graph) *walk {
	w := &walk{graph: g, places: make([]int, len(g.Nodes)), atoms: map[atom]int{}}
	for i := range w.places {
		w.places[i] = unmet
	}
	return w
}

// follow meets a node and all that hangs on it. What is still to be met waits on a stack of its own, since a list is as deep as it is long.
func (w *walk) follow(root int) {
	waiting := []int{root}
	for len(waiting) > 0 {
		last := len(waiting) - 1
		old := waiting[last]
		waiting = waiting[:last]
		if w.places[old] != unmet {
			continue
		}
		w.meet(old)
		kids := w.graph.Nodes[old].Kids
		for i := len(kids) - 1; i >= 0; i-- { // the leftmost one lies on top
			waiting = append(waiting, kids[i])
		}
	}
}

// meet gives a node its new place: the next one, but of an atom that was met in another node that one's.
func (w *walk) meet(old int) {
	next := len(w.order)
	if n := w.graph.Nodes[old]; Atom(n.Kind) {
		key := atom{kind: n.Kind, num: n.Num, text: n.Text}
		if first, ok := w.atoms[key]; ok {
			w.places[old] = first
			return
		}
		w.atoms[key] = next
	}
	w.places[old] = next
	w.order = append(w.order, old)
}

// met is the graph of the nodes that were met.
func (w *walk) met() api.Graph {
	var out api.Graph
	for _, old := range w.order {
		n := w.graph.Nodes[old]
		n.Kids = w.renumbered(n.Kids)
		out.Nodes = append(out.Nodes, n)
	}
	out.Roots = w.renumbered(w.graph.Roots)
	return out
}

// renumbered are the new places of old ones, in new memory.
func (w *walk) renumbered(olds []int) []int {
	var out []int
	for _, old := range olds {
		out = append(out, w.places[old])
	}
	return out
}
