package print

import (
	"strconv"

	"athanor/api"
	"athanor/lex"
)

// opening is what stands ahead of the kids.
func opening(kind int) string {
	switch kind {
	case api.GVector:
		return "#("
	case api.GCond:
		return "#<error"
	case api.GValues:
		return "#<values"
	}
	return "("
}

// between is what stands ahead of a kid that has so many before it.
func between(kind, before int) string {
	if before == 0 && (kind == api.GPair || kind == api.GVector) {
		return ""
	}
	return " "
}

// closing is what stands behind the kids.
func closing(kind int) string {
	switch kind {
	case api.GCond, api.GValues:
		return ">"
	}
	return ")"
}

// textOf is the text of a node that has no kids that are written.
func textOf(n api.Node, show bool) string {
	switch n.Kind {
	case api.GNull:
		return "()"
	case api.GBytes:
		return bytesOf(n.Text)
	case api.GEof:
		return "#<eof>"
	case api.GVoid:
		return "#<void>"
	case api.GEnv:
		return "#<environment>"
	case api.GPort:
		return "#<port>"
	case api.GProc:
		return procedureOf(n.Text)
	case api.GRecord:
		return "#<" + n.Text + ">"
	}
	if show {
		return shown(n)
	}
	return spelt(n)
}

// shown is a letter, a text as it is; all else as it is spelt.
func shown(n api.Node) string {
	switch n.Kind {
	case api.GChar:
		return string(rune(n.Num))
	case api.GString:
		return n.Text
	}
	return spelt(n)
}

// spelt is what a node's token is spelt.
func spelt(n api.Node) string {
	switch n.Kind {
	case api.GBool:
		return spell(api.TkBool, n.Num, "")
	case api.GInt:
		return spell(api.TkInt, 0, n.Text)
	case api.GChar:
		return spell(api.TkChar, n.Num, "")
	case api.GString:
		return spell(api.TkString, 0, n.Text)
	}
	return spell(api.TkSym, 0, n.Text)
}

func spell(kind, num int, text string) string {
	return lex.Spell(api.Token{Kind: kind, Num: num, Text: text})
}

func bytesOf(text string) string {
	out := []byte("#u8(")
	for i := range len(text) {
		if i > 0 {
			out = append(out, ' ')
		}
		out = strconv.AppendInt(out, int64(text[i]), 10)
	}
	return string(append(out, ')'))
}

func procedureOf(text string) string {
	if text == "" {
		return "#<procedure>"
	}
	return "#<procedure " + text + ">"
}
