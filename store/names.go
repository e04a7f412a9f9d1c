package store

import "strings"

// Names have numbers.
type Names struct {
	ids   map[string]int // nil, if NewNames did not make it
	texts []string       // by number
}

// none is what Id tells where there can be no names.
const none = -1

// NewNames makes a table without names.
func NewNames() *Names { return &Names{ids: map[string]int{}} }

// Id tells a name's number.
func (t *Names) Id(s string) int {
	if t == nil || t.ids == nil {
		return none
	}
	if n, ok := t.ids[s]; ok {
		return n
	}
	n := len(t.texts)
	s = strings.Clone(s) // a name that was cut out of a source would keep all of it
	t.ids[s] = n
	t.texts = append(t.texts, s)
	return n
}

// Text tells a number's name.
func (t *Names) Text(n int) (string, bool) {
	if t == nil || n < 0 || n >= len(t.texts) {
		return "", false
	}
	return t.texts[n], true
}
