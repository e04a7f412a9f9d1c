package store

import (
	"strconv"
	"unicode/utf8"

	"athanor/api"
	"athanor/heap"
	"athanor/word"
)

// shower tells what words say. A word has one node, however often it is met: it says one thing.
type shower struct {
	heap   *heap.Heap
	names  *Names
	words  []api.Word       // by place of a node, the word that it shows
	places map[api.Word]int // by word, the place of its node
}

// placesOf are the places of words' nodes; a word that was not met yet gets the next one.
func (s *shower) placesOf(words []api.Word) []int {
	var out []int
	for _, w := range words {
		place, ok := s.places[w]
		if !ok {
			place = len(s.words)
			s.places[w] = place
			s.words = append(s.words, w)
		}
		out = append(out, place)
	}
	return out
}

// node is the node that shows a word, and the words that its kids show.
func (s *shower) node(w api.Word) (api.Node, []api.Word) {
	if kind, err := s.heap.Kind(w); err == api.OK {
		return s.object(w, kind)
	}
	return s.plain(w), nil
}

// plain is the node of a word that says no object's place.
func (s *shower) plain(w api.Word) api.Node {
	if n, ok := word.Int(w); ok {
		return api.Node{Kind: api.GInt, Text: strconv.FormatInt(n, 10)}
	}
	if n, ok := word.Letter(w); ok {
		return api.Node{Kind: api.GChar, Num: n}
	}
	if text, ok := s.name(w); ok && text != "" { // no node is a name without letters
		return api.Node{Kind: api.GSym, Text: text}
	}
	if _, ok := word.PrimOf(w); ok {
		return api.Node{Kind: api.GProc}
	}
	switch w {
	case word.Null:
		return api.Node{Kind: api.GNull}
	case word.False:
		return api.Node{Kind: api.GBool}
	case word.True:
		return api.Node{Kind: api.GBool, Num: 1}
	case word.Eof:
		return api.Node{Kind: api.GEof}
	}
	return voidNode()
}

// object is the node of an object of some type, and the words that its kids show.
func (s *shower) object(p api.Word, kind int) (api.Node, []api.Word) {
	switch kind {
	case api.TPair:
		return pairNode(s.fields(p))
	case api.TVector:
		return vectorNode(s.fields(p))
	case api.TString:
		return textNode(s.fields(p)), nil
	case api.TBytes:
		return bytesNode(s.fields(p)), nil
	case api.TBig:
		return bigNode(s.heap, p), nil
	case api.TCond:
		return conditionNode(s.fields(p))
	case api.TValues:
		return api.Node{Kind: api.GValues}, s.fields(p)
	case api.TRecord:
		return s.record(s.fields(p))
	case api.TRecType:
		return api.Node{Kind: api.GRecord, Text: "record-type"}, nil
	case api.TTable:
		return api.Node{Kind: api.GRecord, Text: "table"}, nil
	case api.TEnv:
		return api.Node{Kind: api.GEnv}, nil
	case api.TPort:
		return api.Node{Kind: api.GPort}, nil
	case api.TClosure, api.TCont, api.TParam, api.TRecProc:
		return api.Node{Kind: api.GProc}, nil
	}
	return voidNode(), nil
}

// record is the node of a record, if its type has a name.
func (s *shower) record(fields []api.Word) (api.Node, []api.Word) {
	if len(fields) == 0 {
		return voidNode(), nil
	}
	first, _ := s.heap.Get(fields[0], api.TRecType, 0) // beside an error it is a word that is no name
	text, ok := s.name(first)
	if !ok {
		return voidNode(), nil
	}
	return api.Node{Kind: api.GRecord, Text: text}, fields[1:]
}

// name is the name that a word says; false, if it says none that is in the table, or one that is no UTF-8, which no node may have.
func (s *shower) name(w api.Word) (string, bool) {
	n, ok := word.NameOf(w)
	if !ok {
		return "", false
	}
	text, ok := s.names.Text(n)
	return text, ok && utf8.ValidString(text)
}

// fields are an object's fields: no more than reach to the next head or to what is not used, so that no word is two objects' field, whatever heads were put.
func (s *shower) fields(p api.Word) []api.Word {
	var out []api.Word
	size, _ := s.heap.Size(p)
	for i := range size {
		w, err := s.heap.Get(p, 0, i)
		if _, _, isHead := word.HeadOf(w); isHead || err != api.OK {
			break
		}
		out = append(out, w)
	}
	return out
}
