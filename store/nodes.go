package store

import (
	"math"

	"athanor/api"
	"athanor/word"
)

// voidNode is the node of all that is not as the chapter says.
func voidNode() api.Node { return api.Node{Kind: api.GVoid} }

func pairNode(fields []api.Word) (api.Node, []api.Word) {
	if len(fields) != 2 {
		return voidNode(), nil
	}
	return api.Node{Kind: api.GPair}, fields
}

func vectorNode(fields []api.Word) (api.Node, []api.Word) {
	if len(fields) > api.MaxItems {
		return voidNode(), nil
	}
	return api.Node{Kind: api.GVector}, fields
}

func conditionNode(fields []api.Word) (api.Node, []api.Word) {
	if len(fields) != 3 {
		return voidNode(), nil
	}
	num, ok := numberUpTo(2, fields[0])
	if !ok {
		return voidNode(), nil
	}
	return api.Node{Kind: api.GCond, Num: int(num)}, fields[1:]
}

func textNode(fields []api.Word) api.Node {
	if len(fields) > api.MaxItems {
		return voidNode()
	}
	var out []rune
	for _, w := range fields {
		letter, ok := word.Letter(w)
		if !ok {
			return voidNode()
		}
		out = append(out, rune(letter))
	}
	return api.Node{Kind: api.GString, Text: string(out)}
}

func bytesNode(fields []api.Word) api.Node {
	if len(fields) > api.MaxItems {
		return voidNode()
	}
	var out []byte
	for _, w := range fields {
		b, ok := numberUpTo(math.MaxUint8, w)
		if !ok {
			return voidNode()
		}
		out = append(out, byte(b))
	}
	return api.Node{Kind: api.GBytes, Text: string(out)}
}
