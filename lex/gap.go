package lex

import (
	"bytes"
	"strings"
)

const (
	blanks     = " \t\n\r"
	delimiters = blanks + "()\";"
)

// skip tells where the blanks and remarks from a place on end.
func skip(source []byte, at int) int {
	for {
		size := gapSize(source[at:])
		if size == 0 {
			return at
		}
		at += size
	}
}

// gapSize is how many bytes the blank or the remark at the front has: 0, if there is none. A remark without its end is none, and no token either, so that it is told as a token that is wrong.
func gapSize(rest []byte) int {
	switch {
	case len(rest) == 0:
		return 0
	case strings.IndexByte(blanks, rest[0]) >= 0:
		return 1
	case rest[0] == ';':
		return sizeTo(rest, "\n")
	case bytes.HasPrefix(rest, []byte("#|")):
		return remarkSize(rest)
	}
	return 0
}

// remarkSize is how many bytes a remark from #| to its |# has: 0, if it has no end.
func remarkSize(rest []byte) int {
	open := 0
	for i := 0; i+2 <= len(rest); i++ {
		switch string(rest[i : i+2]) {
		case "#|":
			open++
			i++
		case "|#":
			open--
			i++
		}
		if open == 0 {
			return i + 1
		}
	}
	return 0
}

// wordSize is how many bytes stand ahead of the first delimiter.
func wordSize(rest []byte) int { return sizeTo(rest, delimiters) }

// sizeTo is how many bytes stand ahead of the first of some letters; all, if none of them is there.
func sizeTo(rest []byte, letters string) int {
	if i := bytes.IndexAny(rest, letters); i >= 0 {
		return i
	}
	return len(rest)
}
