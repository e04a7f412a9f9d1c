package word

import (
	"unicode"
	"unicode/utf8"

	"athanor/api"
)

// Bounds of what words have; each is itself allowed.
const (
	leastNumber = -1 << 60
	mostNumber  = 1<<60 - 1
	mostPlace   = 1 << 40 // of sizes, too
	mostCount   = 1 << 30
	leastType   = 1
	mostType    = 255
)

// counted makes a word of a kind whose number is a count.
func counted(kind api.Word, n int) (api.Word, bool) {
	if !isCount(n) {
		return 0, false
	}
	return ofKind(kind, n), true
}

// countOf tells the count that a word of a kind has.
func countOf(kind, w api.Word) (int, bool) {
	n, ok := above(kind, w)
	if !ok || !isCount(n) {
		return 0, false
	}
	return n, true
}

// ofKind puts a number above a kind.
func ofKind(kind api.Word, n int) api.Word { return api.Word(n)<<afterKind | kind }

// above takes the number above a kind out of a word, whatever its bounds; false, if the word is of another kind.
func above(kind, w api.Word) (int, bool) { return int(w >> afterKind), w&kindMask == kind }

// isCount tells whether a name, a primitive or a special form may have that number.
func isCount(n int) bool { return 0 <= n && n <= mostCount }

// isLetter tells whether a number is a letter's. It is asked as an int: a rune would lose what is above 32 bits.
func isLetter(n int) bool {
	return 0 <= n && n <= unicode.MaxRune && utf8.ValidRune(rune(n))
}
