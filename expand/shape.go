package expand

import "athanor/api"

// bare is a piece without its stamps.
func bare(s api.Syn) api.Syn {
	s.Stamps = nil
	s.Kids = bareAll(s.Kids)
	s.Tail = bareAll(s.Tail)
	return s
}

// bareAll are pieces without their stamps.
func bareAll(all []api.Syn) []api.Syn {
	var out []api.Syn
	for _, s := range all {
		out = append(out, bare(s))
	}
	return out
}

// listOf is a list of some pieces.
func listOf(kids ...api.Syn) api.Syn { return api.Syn{Kind: api.SList, Kids: kids} }

// named is an identifier without stamps.
func named(text string) api.Syn { return api.Syn{Kind: api.SId, Text: text} }

// isRow tells whether a piece is a list of so many, without a Tail.
func isRow(s api.Syn, n int) bool {
	return s.Kind == api.SList && len(s.Tail) == 0 && len(s.Kids) == n
}

// row is what stands in a list without a Tail, so many pieces at least.
func row(s api.Syn, least int) []api.Syn {
	must(s.Kind == api.SList && len(s.Tail) == 0 && len(s.Kids) >= least)
	return s.Kids
}

// rest is a list without its first kid, or its Tail.
func rest(s api.Syn) api.Syn {
	if len(s.Kids) == 1 && len(s.Tail) > 0 {
		return s.Tail[0]
	}
	return api.Syn{Kind: api.SList, Kids: s.Kids[1:], Tail: s.Tail}
}

// pairs are what stands first, and second, in each of a list of lists of two.
func pairs(s api.Syn) (first, second []api.Syn) {
	for _, pair := range row(s, 0) {
		must(isRow(pair, 2))
		first = append(first, pair.Kids[0])
		second = append(second, pair.Kids[1])
	}
	return first, second
}

// isIdentifier tells whether a piece is one.
func isIdentifier(s api.Syn) bool { return s.Kind == api.SId }

// has tells whether an identifier is among others.
func has(all []api.Syn, id api.Syn) bool {
	for _, other := range all {
		if sameId(other, id) {
			return true
		}
	}
	return false
}

// distinct are pieces that have to be identifiers, no two of them the same.
func distinct(all []api.Syn) []api.Syn {
	for i, s := range all {
		must(isIdentifier(s) && !has(all[:i], s))
	}
	return all
}
