package graph

import (
	"unicode"
	"unicode/utf8"

	"athanor/api"
	"athanor/limbs"
)

// Good tells whether a graph is good: its nodes are, and its roots are places of nodes.
func Good(g api.Graph) bool {
	for _, n := range g.Nodes {
		if !goodNode(n, len(g.Nodes)) {
			return false
		}
	}
	return arePlaces(g.Roots, len(g.Nodes))
}

// Atom tells whether nodes of a kind are atoms: two that have the same are one thing.
func Atom(kind int) bool {
	switch kind {
	case api.GNull, api.GBool, api.GInt, api.GChar, api.GSym, api.GEof, api.GVoid:
		return true
	}
	return false
}

// goodNode tells whether a node is good in a graph of so many nodes.
func goodNode(n api.Node, nodes int) bool {
	return api.GNull <= n.Kind && n.Kind <= api.GPort &&
		goodNum(n.Kind, n.Num) && goodText(n.Kind, n.Text) && goodCount(n.Kind, len(n.Kids)) && arePlaces(n.Kids, nodes)
}

// goodNum tells whether a kind has such a number; 0, if it has none.
func goodNum(kind, num int) bool {
	switch kind {
	case api.GBool:
		return num == 0 || num == 1
	case api.GChar:
		return isLetter(num)
	case api.GCond:
		return 0 <= num && num <= 2
	}
	return num == 0
}

// goodText tells whether a kind has such a text; the empty one, if it has none.
func goodText(kind int, text string) bool {
	switch kind {
	case api.GInt:
		return isPrinted(text)
	case api.GString:
		return utf8.ValidString(text) && utf8.RuneCountInString(text) <= api.MaxItems
	case api.GSym:
		return text != "" && utf8.ValidString(text)
	case api.GBytes:
		return len(text) <= api.MaxItems
	case api.GProc, api.GRecord:
		return utf8.ValidString(text)
	}
	return text == ""
}

// goodCount tells whether a kind has so many kids.
func goodCount(kind, count int) bool {
	switch kind {
	case api.GPair, api.GCond:
		return count == 2
	case api.GVector:
		return count <= api.MaxItems
	case api.GRecord, api.GValues:
		return true
	}
	return count == 0
}

// arePlaces tells whether all are places of a graph of so many nodes.
func arePlaces(all []int, nodes int) bool {
	for _, p := range all {
		if p < 0 || p >= nodes {
			return false
		}
	}
	return true
}

// isLetter tells whether a number is a letter's. It is asked as an int: a rune would lose what is above 32 bits.
func isLetter(num int) bool {
	return 0 <= num && num <= unicode.MaxRune && utf8.ValidRune(rune(num))
}

// isPrinted tells whether a text is an integer's digits as they are printed: there is one such text of each integer, so that atoms can be told apart by their texts.
func isPrinted(text string) bool {
	x, err := limbs.Parse(text, 10)
	if err != api.OK {
		return false
	}
	printed, err := limbs.Print(x, 10)
	return err == api.OK && printed == text
}
