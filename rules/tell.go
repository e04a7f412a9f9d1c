package rules

import "athanor/api"

// ask puts a question to variables, and tells the answer, if all of them give the same.
func ask[A comparable](all []variable, question func(v variable) A) (A, bool) {
	var first, nothing A
	for i, v := range all {
		answer := question(v)
		if i > 0 && answer != first {
			return nothing, false
		}
		first = answer
	}
	return first, true
}

// telling tells a template.
type telling struct {
	dots   []dots
	now    []*turn // by ellipsis of the pattern, the turn that is told; of 0 the whole one
	count  int     // of pieces
	differ bool    // did variables take numbers that differ
}

// tell is what a rule's template tells of what its variables took. Where there is too much, nothing more is kept, but the template is gone through to its end: numbers that differ count more than pieces that are too many.
func tell(r rule, first *turn) (api.Syn, api.Errno) {
	t := &telling{dots: r.dots, now: make([]*turn, len(r.dots))}
	t.now[0] = first
	told := t.piece(r.template)
	if t.differ {
		return api.Syn{}, api.ErrMatch
	}
	if t.full() {
		return api.Syn{}, api.ErrFull
	}
	return told, api.OK
}

// full tells whether there are too many pieces.
func (t *telling) full() bool { return t.count > api.MaxForms }

// piece is what a template tells that is not multiplied.
func (t *telling) piece(p template) api.Syn {
	switch p.kind {
	case tellsVariable:
		return t.taken(p.variable)
	case tellsList:
		return t.list(p)
	case tellsVector:
		t.count++
		return api.Syn{Kind: api.SVector, Kids: t.row(p.kids)}
	}
	t.count++
	return p.piece
}

// taken is what a variable took.
func (t *telling) taken(v variable) api.Syn {
	if t.full() {
		return api.Syn{}
	}
	around := 0
	if len(v.within) > 0 {
		around = v.within[len(v.within)-1]
	}
	s := t.now[around].took[v.place]
	t.count += Size(s)
	return s
}

// list is what a list tells. It is its Tail, if nothing stands ahead of that; and one with its Tail, if that is a list.
func (t *telling) list(p template) api.Syn {
	kids := t.row(p.kids)
	if len(p.tail) == 0 {
		t.count++
		return api.Syn{Kind: api.SList, Kids: kids}
	}
	tail := t.piece(p.tail[0])
	switch {
	case len(kids) == 0:
		return tail
	case tail.Kind == api.SList:
		return api.Syn{Kind: api.SList, Kids: append(kids, tail.Kids...), Tail: tail.Tail}
	}
	t.count++
	return api.Syn{Kind: api.SList, Kids: kids, Tail: []api.Syn{tail}}
}

// row is what kids tell.
func (t *telling) row(kids []template) []api.Syn {
	var out []api.Syn
	for _, p := range kids {
		out = t.behind(out, p)
	}
	return out
}

// behind puts what a kid tells behind what is told.
func (t *telling) behind(out []api.Syn, p template) []api.Syn {
	if p.kind == tellsMany {
		return t.many(out, p)
	}
	s := t.piece(p)
	if t.full() {
		return nil
	}
	return append(out, s)
}

// many puts what a kid that is multiplied tells behind what is told, turn by turn.
func (t *telling) many(out []api.Syn, p template) []api.Syn {
	n, alike := ask(p.asked, func(v variable) int { return len(t.turns(v, p.depth)) })
	if !alike {
		t.differ = true
		return nil
	}
	for i := range n {
		for _, v := range p.asked {
			t.now[v.within[p.depth]] = &t.turns(v, p.depth)[i]
		}
		out = t.behind(out, p.kids[0])
	}
	return out
}

// turns are the turns of a variable's ellipsis so deep within the pattern, in the turn that is told of those around it.
func (t *telling) turns(v variable, depth int) []turn {
	d := t.dots[v.within[depth]]
	return t.now[d.around].turns[d.place]
}
