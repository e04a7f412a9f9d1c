package rules

import (
	"athanor/api"
	"athanor/graph"
)

// none stands for a number that there is none of.
const none = -1

// tooGreat tells whether something is no piece, or one of more than MaxForms pieces.
func tooGreat(s api.Syn) bool { return leftBehind(s, api.MaxForms) == none }

// leftBehind tells how many pieces are left of so many that a piece may have; none, if it has more, or is no piece. It looks at no more than may be, so that it ends whatever it is given.
func leftBehind(s api.Syn, left int) int {
	if left == 0 || !hasItsOwn(s) {
		return none
	}
	left--
	for _, part := range [][]api.Syn{s.Kids, s.Tail} {
		for _, kid := range part {
			left = leftBehind(kid, left)
			if left == none {
				return none
			}
		}
	}
	return left
}

// hasItsOwn tells whether a piece has what its kind has, and nothing else. Its kids are not looked at.
func hasItsOwn(s api.Syn) bool {
	unnamed := s.Text == "" && len(s.Stamps) == 0
	bare := len(s.Kids) == 0 && len(s.Tail) == 0
	switch s.Kind {
	case api.SId:
		return bare && isZero(s.Atom)
	case api.SList:
		return unnamed && hasGoodTail(s) && isZero(s.Atom)
	case api.SVector:
		return unnamed && len(s.Tail) == 0 && isZero(s.Atom)
	case api.SAtom:
		return unnamed && bare && isGoodAtom(s.Atom)
	}
	return false
}

// hasGoodTail tells whether a list has no Tail, or one that may be.
func hasGoodTail(s api.Syn) bool {
	return len(s.Tail) == 0 || len(s.Tail) == 1 && len(s.Kids) > 0 && s.Tail[0].Kind != api.SList
}

// isZero tells whether a node is none.
func isZero(n api.Node) bool { return n.Kind == 0 && n.Num == 0 && n.Text == "" && len(n.Kids) == 0 }

// isGoodAtom tells whether a node may be a piece's.
func isGoodAtom(n api.Node) bool {
	return isAtomKind(n.Kind) && graph.Good(api.Graph{Nodes: []api.Node{n}})
}

// isAtomKind tells whether nodes of a kind are atoms of pieces. (What chapter 2 calls an atom is something else.)
func isAtomKind(kind int) bool {
	switch kind {
	case api.GBool, api.GInt, api.GChar, api.GString, api.GBytes:
		return true
	}
	return false
}

// unfolding makes pieces of a good graph's nodes: at most so many as are left.
type unfolding struct {
	nodes []api.Node
	left  int
	wrong bool
}

// piece is the piece of a node.
func (u *unfolding) piece(n int) api.Syn {
	if u.left == 0 {
		u.wrong = true
	}
	if u.wrong {
		return api.Syn{}
	}
	u.left--
	node := u.nodes[n]
	switch {
	case node.Kind == api.GSym:
		return api.Syn{Kind: api.SId, Text: node.Text}
	case node.Kind == api.GNull || node.Kind == api.GPair:
		return u.list(n)
	case node.Kind == api.GVector:
		return u.vector(node.Kids)
	case isAtomKind(node.Kind):
		return api.Syn{Kind: api.SAtom, Atom: api.Node{Kind: node.Kind, Num: node.Num, Text: node.Text}}
	}
	u.wrong = true
	return api.Syn{}
}

// list is the list of the pairs from a node on.
func (u *unfolding) list(n int) api.Syn {
	out := api.Syn{Kind: api.SList}
	for u.nodes[n].Kind == api.GPair && !u.wrong {
		pair := u.nodes[n].Kids
		out.Kids = append(out.Kids, u.piece(pair[0]))
		n = pair[1]
	}
	if u.nodes[n].Kind != api.GNull && !u.wrong {
		out.Tail = []api.Syn{u.piece(n)}
	}
	return out
}

// vector is the vector of some nodes.
func (u *unfolding) vector(kids []int) api.Syn {
	out := api.Syn{Kind: api.SVector}
	for _, kid := range kids {
		out.Kids = append(out.Kids, u.piece(kid))
	}
	return out
}

// folding makes nodes of pieces.
type folding struct{ nodes []api.Node }

// add puts a node behind the others, and tells its place.
func (f *folding) add(n api.Node) int {
	f.nodes = append(f.nodes, n)
	return len(f.nodes) - 1
}

// piece is the place of a piece's node.
func (f *folding) piece(s api.Syn) int {
	switch s.Kind {
	case api.SId:
		return f.add(api.Node{Kind: api.GSym, Text: s.Text})
	case api.SList:
		return f.list(s)
	case api.SVector:
		return f.add(api.Node{Kind: api.GVector, Kids: f.pieces(s.Kids)})
	}
	return f.add(api.Node{Kind: s.Atom.Kind, Num: s.Atom.Num, Text: s.Atom.Text})
}

// pieces are the places of some pieces' nodes.
func (f *folding) pieces(all []api.Syn) []int {
	var out []int
	for _, s := range all {
		out = append(out, f.piece(s))
	}
	return out
}

// list is the place of a list's first pair, or of what stands at its end, if it has none.
func (f *folding) list(s api.Syn) int {
	kids := f.pieces(s.Kids)
	var end int
	if len(s.Tail) > 0 {
		end = f.piece(s.Tail[0])
	} else {
		end = f.add(api.Node{Kind: api.GNull})
	}
	for i := len(kids) - 1; i >= 0; i-- {
		end = f.add(api.Node{Kind: api.GPair, Kids: []int{kids[i], end}})
	}
	return end
}
