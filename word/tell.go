package word

import "athanor/api"

// Int tells a number.
func Int(w api.Word) (int64, bool) {
	if w&tagMask != tagNumber {
		return 0, false
	}
	return int64(w) >> afterTag, true // as an int64, so that its sign comes down with it
}

// At tells a place.
func At(w api.Word) (int, bool) {
	n := w >> afterTag
	if w&tagMask != tagPlace || n > mostPlace {
		return 0, false
	}
	return int(n), true
}

// Letter tells a letter.
func Letter(w api.Word) (int, bool) {
	n, ok := above(kindLetter, w)
	if !ok || !isLetter(n) {
		return 0, false
	}
	return n, true
}

// NameOf tells a name.
func NameOf(w api.Word) (int, bool) { return countOf(kindName, w) }

// PrimOf tells a primitive.
func PrimOf(w api.Word) (int, bool) { return countOf(kindPrim, w) }

// SpecialOf tells a special form.
func SpecialOf(w api.Word) (int, bool) { return countOf(kindSpecial, w) }

// HeadOf tells a head.
func HeadOf(w api.Word) (int, int, bool) {
	kind, size := w>>afterTag&mostType, w>>afterType
	if w&tagMask != tagHead || kind < leastType || size > mostPlace {
		return 0, 0, false
	}
	return int(kind), int(size), true
}
