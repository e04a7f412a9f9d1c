package rules_test

import (
	"slices"

	"athanor/api"
	"athanor/graph"
)

// The chapter written out a second time: pieces are counted in full ahead of all else, identifiers are held against each other one by one, what is wrong is a panic, what variables took stands in a list that is copied on.

// isPieceAlone tells whether a piece has what its kind has, and nothing else, its kids not looked at.
func isPieceAlone(s api.Syn) bool {
	has := map[bool]int{true: 1}
	text, stamps, kids, tail, atom := has[s.Text != ""], has[len(s.Stamps) > 0], has[len(s.Kids) > 0], len(s.Tail), has[!isZeroNode(s.Atom)]
	switch s.Kind {
	case api.SId:
		return kids+tail+atom == 0
	case api.SList:
		return text+stamps+atom == 0 && (tail == 0 || tail == 1 && kids == 1 && s.Tail[0].Kind != api.SList)
	case api.SVector:
		return text+stamps+atom+tail == 0
	case api.SAtom:
		if text+stamps+kids+tail > 0 || !slices.Contains([]int{api.GBool, api.GInt, api.GChar, api.GString, api.GBytes}, s.Atom.Kind) {
			return false
		}
		return graph.Good(api.Graph{Nodes: []api.Node{s.Atom}, Roots: []int{0}})
	}
	return false
}

// sizeOf is Size of what does not go round.
func sizeOf(s api.Syn) int {
	n := 0
	good := true
	var count func(s api.Syn)
	count = func(s api.Syn) {
		n++
		good = good && isPieceAlone(s)
		for _, k := range s.Kids {
			count(k)
		}
		for _, k := range s.Tail {
			count(k)
		}
	}
	count(s)
	if !good || n > api.MaxForms {
		return api.MaxForms + 1
	}
	return n
}

// fromOf is From of a good graph's node: false, if there is no piece. It goes at most MaxForms deep.
func fromOf(g api.Graph, n int) (out api.Syn, ok bool) {
	defer func() {
		if recover() != nil {
			out, ok = api.Syn{}, false
		}
	}()
	pieces := 0
	var of func(n int) api.Syn
	var rest func(n int) ([]api.Syn, []api.Syn)
	of = func(n int) api.Syn {
		if pieces++; pieces > api.MaxForms {
			panic("too many")
		}
		switch x := g.Nodes[n]; x.Kind {
		case api.GSym:
			return id(x.Text)
		case api.GNull, api.GPair:
			kids, tail := rest(n)
			return api.Syn{Kind: api.SList, Kids: kids, Tail: tail}
		case api.GVector:
			var kids []api.Syn
			for _, k := range x.Kids {
				kids = append(kids, of(k))
			}
			return vector(kids...)
		case api.GBool, api.GInt, api.GChar, api.GString, api.GBytes:
			return atom(api.Node{Kind: x.Kind, Num: x.Num, Text: x.Text})
		}
		panic("a kind")
	}
	rest = func(n int) ([]api.Syn, []api.Syn) {
		switch x := g.Nodes[n]; x.Kind {
		case api.GNull:
			return nil, nil
		case api.GPair:
			first := of(x.Kids[0])
			kids, tail := rest(x.Kids[1])
			return append([]api.Syn{first}, kids...), tail
		}
		return nil, []api.Syn{of(n)}
	}
	return of(n), true
}

// toOf is To of a piece that is not too great: nodes in the order of Canon, made one by one.
func toOf(s api.Syn) api.Graph {
	var g api.Graph
	add := func(n api.Node) int {
		if graph.Atom(n.Kind) {
			if i := slices.IndexFunc(g.Nodes, func(m api.Node) bool { return m.Kind == n.Kind && m.Num == n.Num && m.Text == n.Text }); i >= 0 {
				return i
			}
		}
		g.Nodes = append(g.Nodes, n)
		return len(g.Nodes) - 1
	}
	var of func(s api.Syn) int
	of = func(s api.Syn) int {
		switch {
		case s.Kind == api.SId:
			return add(api.Node{Kind: api.GSym, Text: s.Text})
		case s.Kind == api.SAtom:
			return add(api.Node{Kind: s.Atom.Kind, Num: s.Atom.Num, Text: s.Atom.Text})
		case s.Kind == api.SVector:
			at := add(api.Node{Kind: api.GVector})
			for _, k := range s.Kids {
				place := of(k)
				g.Nodes[at].Kids = append(g.Nodes[at].Kids, place)
			}
			return at
		case len(s.Kids) > 0:
			at := add(api.Node{Kind: api.GPair})
			car := of(s.Kids[0])
			cdr := of(api.Syn{Kind: api.SList, Kids: s.Kids[1:], Tail: s.Tail})
			g.Nodes[at].Kids = []int{car, cdr}
			return at
		case len(s.Tail) > 0:
			return of(s.Tail[0])
		}
		return add(api.Node{Kind: api.GNull})
	}
	g.Roots = []int{of(s)}
	return g
}

func sameId(a, b api.Syn) bool {
	return a.Kind == api.SId && b.Kind == api.SId && a.Text == b.Text && slices.Equal(a.Stamps, b.Stamps)
}

func has(all []api.Syn, it api.Syn) bool {
	return slices.ContainsFunc(all, func(s api.Syn) bool { return sameId(s, it) })
}

// want panics, if something is not so.
func want(so bool) {
	if !so {
		panic("not so")
	}
}

// level is a variable, and how often the pattern multiplies it.
type level struct {
	id    api.Syn
	times int
}

// parseOf is Parse: false, if it is refused.
func parseOf(s api.Syn) (m api.Macro, ok bool) {
	defer func() {
		if recover() != nil {
			m, ok = api.Macro{}, false
		}
	}()
	want(sizeOf(s) <= api.MaxForms && s.Kind == api.SList && len(s.Tail) == 0)
	rest := s.Kids[1:]
	m.Ellipsis = id("...")
	if rest[0].Kind == api.SId {
		m.Ellipsis, rest = rest[0], rest[1:]
	}
	want(rest[0].Kind == api.SList && len(rest[0].Tail) == 0)
	for _, l := range rest[0].Kids {
		want(l.Kind == api.SId)
		m.Literals = append(m.Literals, l)
	}
	for _, r := range rest[1:] {
		want(r.Kind == api.SList && len(r.Kids) == 2 && len(r.Tail) == 0)
		m.Rules = append(m.Rules, api.Rule{Pattern: r.Kids[0], Template: r.Kids[1]})
		checkRule(m, r.Kids[0], r.Kids[1])
	}
	return m, true
}

func isEllipsis(m api.Macro, s api.Syn) bool {
	return sameId(s, m.Ellipsis) && !has(m.Literals, m.Ellipsis)
}

func checkRule(m api.Macro, pattern, template api.Syn) {
	want(pattern.Kind == api.SList && len(pattern.Kids) > 0 && pattern.Kids[0].Kind == api.SId)
	var all []level
	checkPatterns(m, pattern.Kids[1:], 0, &all)
	for _, s := range pattern.Tail {
		checkPattern(m, s, 0, &all)
	}
	checkTemplate(m, template, 0, all, true)
}

func checkPatterns(m api.Macro, kids []api.Syn, times int, all *[]level) {
	seen := 0
	for i, s := range kids {
		if isEllipsis(m, s) {
			seen++
			want(i > 0 && seen == 1)
			continue
		}
		more := 0
		if i+1 < len(kids) && isEllipsis(m, kids[i+1]) {
			more = 1
		}
		checkPattern(m, s, times+more, all)
	}
}

func checkPattern(m api.Macro, s api.Syn, times int, all *[]level) {
	want(!isEllipsis(m, s))
	if s.Kind == api.SId && !has(m.Literals, s) && !sameId(s, id("_")) {
		for _, l := range *all {
			want(!sameId(l.id, s))
		}
		*all = append(*all, level{s, times})
	}
	checkPatterns(m, s.Kids, times, all)
	for _, tail := range s.Tail {
		checkPattern(m, tail, times, all)
	}
}

// escaped is what stands behind an ellipsis in a list of two.
func escaped(m api.Macro, s api.Syn) (api.Syn, bool) {
	if s.Kind == api.SList && len(s.Kids) == 2 && len(s.Tail) == 0 && isEllipsis(m, s.Kids[0]) {
		return s.Kids[1], true
	}
	return api.Syn{}, false
}

func checkTemplate(m api.Macro, s api.Syn, times int, all []level, dots bool) {
	if inner, ok := escaped(m, s); ok && dots {
		checkTemplate(m, inner, times, all, false)
		return
	}
	want(!dots || !isEllipsis(m, s))
	for _, l := range all {
		want(!sameId(l.id, s) || l.times == 0 || l.times == times)
	}
	for i := 0; i < len(s.Kids); i++ {
		kid, more := s.Kids[i], 0
		for dots && i+1 < len(s.Kids) && isEllipsis(m, s.Kids[i+1]) {
			more++
			i++
		}
		checkTemplate(m, kid, times+more, all, dots)
		want(more == 0 || slices.ContainsFunc(all, func(l level) bool { return l.times > 0 && occurs(l.id, kid) }))
	}
	for _, tail := range s.Tail {
		checkTemplate(m, tail, times, all, dots)
	}
}

// occurs tells whether an identifier stands in a piece.
func occurs(it, s api.Syn) bool {
	in := func(s api.Syn) bool { return occurs(it, s) }
	return sameId(it, s) || slices.ContainsFunc(s.Kids, in) || slices.ContainsFunc(s.Tail, in)
}

// bound is what a variable took: a piece, or, where it is multiplied, each thing.
type bound struct {
	id   api.Syn
	one  api.Syn
	many []bound
	row  bool
}

// useOf is Use, with a macro that is as it may be, and a form that may be.
func useOf(m api.Macro, form api.Syn, stamp int, same func(literal, id api.Syn) bool) (out api.Syn, err api.Errno) {
	for _, r := range m.Rules {
		var all []bound
		pattern := api.Syn{Kind: api.SList, Kids: r.Pattern.Kids[1:], Tail: r.Pattern.Tail}
		rest := api.Syn{Kind: api.SList, Kids: form.Kids[1:], Tail: form.Tail}
		if !fit(m, pattern, rest, same, &all) {
			continue
		}
		defer func() {
			if recover() != nil {
				out, err = api.Syn{}, api.ErrMatch
			}
		}()
		out = instance(m, r.Template, all, stamp, true)
		if sizeOf(out) > api.MaxForms {
			return api.Syn{}, api.ErrFull
		}
		return out, api.OK
	}
	return api.Syn{}, api.ErrMatch
}

// ends is a list as one that may be: its Tail alone, if it has no kids; one list, if its Tail is one.
func ends(kids, tail []api.Syn) api.Syn {
	if len(tail) == 1 && len(kids) == 0 {
		return tail[0]
	}
	if len(tail) == 1 && tail[0].Kind == api.SList {
		return api.Syn{Kind: api.SList, Kids: slices.Concat(kids, tail[0].Kids), Tail: tail[0].Tail}
	}
	return api.Syn{Kind: api.SList, Kids: kids, Tail: tail}
}

func fit(m api.Macro, p, s api.Syn, same func(literal, id api.Syn) bool, all *[]bound) bool {
	switch {
	case p.Kind == api.SId && has(m.Literals, p):
		return s.Kind == api.SId && same(p, s)
	case p.Kind == api.SId && sameId(p, id("_")):
		return true
	case p.Kind == api.SId:
		*all = append(*all, bound{id: p, one: s})
		return true
	case p.Kind == api.SAtom:
		return s.Kind == api.SAtom && s.Atom.Kind == p.Atom.Kind && s.Atom.Num == p.Atom.Num && s.Atom.Text == p.Atom.Text
	case s.Kind != p.Kind:
		return false
	case len(p.Kids) == 0 && len(p.Tail) == 0:
		return len(s.Kids) == 0 && len(s.Tail) == 0
	case len(p.Kids) == 0: // of a list without its kids that were held
		return fit(m, p.Tail[0], ends(s.Kids, s.Tail), same, all)
	case len(p.Kids) > 1 && isEllipsis(m, p.Kids[1]):
		over := len(s.Kids) - (len(p.Kids) - 2)
		if over < 0 || len(p.Tail) == 0 && len(s.Tail) > 0 {
			return false
		}
		return fitMany(m, p.Kids[0], s.Kids[:over], same, all) && fit(m, without(p, 2), without(s, over), same, all)
	case len(s.Kids) == 0:
		return false
	}
	return fit(m, p.Kids[0], s.Kids[0], same, all) && fit(m, without(p, 1), without(s, 1), same, all)
}

// without is a list or a vector without its first kids. (Of a list this may have a Tail and no kids: it is only gone on with.)
func without(s api.Syn, n int) api.Syn { return api.Syn{Kind: s.Kind, Kids: s.Kids[n:], Tail: s.Tail} }

func fitMany(m api.Macro, p api.Syn, kids []api.Syn, same func(literal, id api.Syn) bool, all *[]bound) bool {
	var names []api.Syn
	variables(m, p, &names)
	rows := make([]bound, len(names))
	for i, n := range names {
		rows[i] = bound{id: n, row: true}
	}
	for _, k := range kids {
		var one []bound
		if !fit(m, p, k, same, &one) {
			return false
		}
		for i := range rows {
			rows[i].many = append(rows[i].many, one[slices.IndexFunc(one, func(b bound) bool { return sameId(b.id, rows[i].id) })])
		}
	}
	*all = append(*all, rows...)
	return true
}

// variables are the variables of a pattern.
func variables(m api.Macro, p api.Syn, out *[]api.Syn) {
	if p.Kind == api.SId && !has(m.Literals, p) && !isEllipsis(m, p) && !sameId(p, id("_")) {
		*out = append(*out, p)
	}
	for _, k := range slices.Concat(p.Kids, p.Tail) {
		variables(m, k, out)
	}
}

// instance is what a template tells; a panic, if numbers differ.
func instance(m api.Macro, s api.Syn, all []bound, stamp int, dots bool) api.Syn {
	if inner, ok := escaped(m, s); ok && dots {
		return instance(m, inner, all, stamp, false)
	}
	if s.Kind == api.SAtom {
		return s
	}
	if s.Kind == api.SId {
		for _, b := range all {
			if sameId(b.id, s) {
				return b.one
			}
		}
		return id(s.Text, slices.Concat(s.Stamps, []int{stamp})...)
	}
	var kids, tail []api.Syn
	for i := 0; i < len(s.Kids); i++ {
		kid, more := s.Kids[i], 0
		for dots && i+1 < len(s.Kids) && isEllipsis(m, s.Kids[i+1]) {
			more++
			i++
		}
		kids = append(kids, instances(m, kid, all, stamp, dots, more)...)
	}
	for _, t := range s.Tail {
		tail = append(tail, instance(m, t, all, stamp, dots))
	}
	if s.Kind == api.SVector {
		return vector(kids...)
	}
	return ends(kids, tail)
}

// instances are what a kid tells that so many ellipses stand behind.
func instances(m api.Macro, s api.Syn, all []bound, stamp int, dots bool, more int) []api.Syn {
	if more == 0 {
		return []api.Syn{instance(m, s, all, stamp, dots)}
	}
	n := -1
	for _, b := range all {
		if b.row && occurs(b.id, s) {
			want(n == -1 || n == len(b.many))
			n = len(b.many)
		}
	}
	var out []api.Syn
	for i := range n {
		inner := slices.Clone(all)
		for k, b := range inner {
			if b.row && occurs(b.id, s) {
				inner[k] = b.many[i]
			}
		}
		out = append(out, instances(m, s, inner, stamp, dots, more-1)...)
	}
	return out
}
