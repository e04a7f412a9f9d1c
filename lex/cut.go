package lex

import (
	"bytes"
	"strconv"

	"athanor/api"
	"athanor/limbs"
)

const mostDigits = 9 // of a label

// cutToken takes the token at the front, and tells how many bytes it has: 0, if what stands there is none. (So do the others of this file.)
func cutToken(rest []byte) (api.Token, int) {
	size := 1
	switch rest[0] {
	case '(':
		return api.Token{Kind: api.TkOpen}, size
	case ')':
		return api.Token{Kind: api.TkClose}, size
	case ',':
		if bytes.HasPrefix(rest, []byte(",@")) {
			size = 2
		}
		fallthrough
	case '\'', '`':
		return api.Token{Kind: api.TkQuote, Text: string(rest[:size])}, size
	case '"':
		return cutText(rest)
	case '#':
		return cutHash(rest)
	}
	return cutWord(rest)
}

// cutHash takes a token that begins with #.
func cutHash(rest []byte) (api.Token, int) {
	if len(rest) == 1 {
		return api.Token{}, 0
	}
	switch second := rest[1]; {
	case second == '(':
		return api.Token{Kind: api.TkVector}, 2
	case second == ';':
		return api.Token{Kind: api.TkSkip}, 2
	case second == '\\':
		return cutChar(rest)
	case isDigit(second):
		return cutLabel(rest)
	}
	return cutHashWord(rest)
}

// cutHashWord takes what is # and a word: a truth, or the opening of bytes.
func cutHashWord(rest []byte) (api.Token, int) {
	size, truth := wordSize(rest), 0
	switch string(rest[:size]) {
	case "#t", "#true":
		truth = 1
		fallthrough
	case "#f", "#false":
		return api.Token{Kind: api.TkBool, Num: truth}, size
	case "#u8":
		if size < len(rest) && rest[size] == '(' {
			return api.Token{Kind: api.TkBytes}, size + 1
		}
	}
	return api.Token{}, 0
}

// cutLabel takes #n= or #n#.
func cutLabel(rest []byte) (api.Token, int) {
	end := 1
	for end < len(rest) && isDigit(rest[end]) {
		end++
	}
	if end == len(rest) || end-1 > mostDigits {
		return api.Token{}, 0
	}
	// So few digits are a number in every int.
	num, _ := strconv.Atoi(string(rest[1:end]))
	switch rest[end] {
	case '=':
		return api.Token{Kind: api.TkLabel, Num: num}, end + 1
	case '#':
		return api.Token{Kind: api.TkRef, Num: num}, end + 1
	}
	return api.Token{}, 0
}

// cutWord takes a dot, an integer or a name.
func cutWord(rest []byte) (api.Token, int) {
	size := wordSize(rest)
	word := string(rest[:size])
	if word == "." {
		return api.Token{Kind: api.TkDot}, size
	}
	n, err := limbs.Parse(word, 10)
	if err == api.OK {
		text, _ := limbs.Print(n, 10)
		return api.Token{Kind: api.TkInt, Text: text}, size
	}
	if err == api.ErrForm && isName(word) {
		return api.Token{Kind: api.TkSym, Text: word}, size
	}
	return api.Token{}, 0
}

// isName tells whether all letters of a word may stand in a name.
func isName(word string) bool {
	for _, letter := range word {
		if !inNames(letter) {
			return false
		}
	}
	return true
}

// inNames tells whether a letter may stand in a name.
func inNames(letter rune) bool {
	switch {
	case letter > 127, 'A' <= letter && letter <= 'Z', 'a' <= letter && letter <= 'z', '0' <= letter && letter <= '9':
		return true
	}
	switch letter {
	case '!', '$', '%', '&', '*', '/', ':', '<', '=', '>', '?', '^', '_', '~', '+', '-', '.', '@':
		return true
	}
	return false
}

func isDigit(c byte) bool { return '0' <= c && c <= '9' }
