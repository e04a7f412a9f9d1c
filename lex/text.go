package lex

import (
	"strconv"
	"strings"
	"unicode/utf8"

	"athanor/api"
)

const mostHex = 6 // digits of a letter's number

type letterName struct {
	name   string
	letter rune
}

// letterNames are the letters that have a name.
var letterNames = [...]letterName{{"space", ' '}, {"newline", '\n'}, {"tab", '\t'}, {"return", '\r'}, {"null", 0}}

// cutChar takes #\ and a letter, a name or a number, as cutToken does. The first letter may be a delimiter itself.
func cutChar(rest []byte) (api.Token, int) {
	const front = len(`#\`)
	_, first := utf8.DecodeRune(rest[front:])
	if first == 0 {
		return api.Token{}, 0
	}
	size := front + first + wordSize(rest[front+first:])
	letter, ok := letterOf(string(rest[front:size]))
	if !ok {
		return api.Token{}, 0
	}
	return api.Token{Kind: api.TkChar, Num: int(letter)}, size
}

// letterOf is the letter that a text is, or that has it as a name, or as a number behind an x.
func letterOf(text string) (rune, bool) {
	letter, size := utf8.DecodeRuneInString(text)
	if size == len(text) {
		return letter, true
	}
	for _, n := range letterNames {
		if n.name == text {
			return n.letter, true
		}
	}
	if letter == 'x' {
		return hexLetter(text[size:])
	}
	return 0, false
}

// hexLetter is the letter whose number some digits of radix 16 are.
func hexLetter(digits string) (rune, bool) {
	if len(digits) > mostHex {
		return 0, false
	}
	n, err := strconv.ParseUint(digits, 16, 32)
	if err != nil || !utf8.ValidRune(rune(n)) {
		return 0, false
	}
	return rune(n), true
}

// cutText takes a text between two ", as cutToken does.
func cutText(rest []byte) (api.Token, int) {
	end := textEnd(rest)
	if end == len(rest) {
		return api.Token{}, 0
	}
	text, ok := said(string(rest[1:end]))
	if !ok {
		return api.Token{}, 0
	}
	return api.Token{Kind: api.TkString, Text: text}, end + 1
}

// textEnd is the place of the " that ends the text at the front; all bytes' number, if there is none. What stands behind a \ ends nothing.
func textEnd(rest []byte) int {
	for i := 1; i < len(rest); i++ {
		switch rest[i] {
		case '\\':
			i++
		case '"':
			return i
		}
	}
	return len(rest)
}

// said is what the letters between two " say; false, if a \ stands ahead of what it may not, or there are too many letters.
func said(inside string) (string, bool) {
	var text strings.Builder
	letters, taken := 0, 0
	for i, letter := range inside {
		if i < taken {
			continue
		}
		if letter == '\\' {
			meant, size := escaped(inside[i:])
			if size == 0 {
				return "", false
			}
			letter, taken = meant, i+size
		}
		text.WriteRune(letter)
		letters++
	}
	return text.String(), letters <= api.MaxItems
}

// escaped is the letter that a \ at the front and what follows it mean, and how many bytes they have: 0, if they mean nothing.
func escaped(rest string) (rune, int) {
	switch c := rest[1]; c {
	case '"', '\\':
		return rune(c), 2
	case 'n':
		return '\n', 2
	case 't':
		return '\t', 2
	case 'r':
		return '\r', 2
	case 'x':
		digits, _, found := strings.Cut(rest[2:], ";")
		if letter, ok := hexLetter(digits); ok && found {
			return letter, len(`\x`) + len(digits) + len(";")
		}
	}
	return 0, 0
}
