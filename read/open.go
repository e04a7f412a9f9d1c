package read

// open is what has begun and waits for data, or for its closing.
type open interface {
	// mayClose tells whether a closing may come next.
	mayClose() bool
}

// list is ( and what came behind it.
type list struct {
	items  []int
	dotted bool
	tail   []int // one or none, behind the dot
}

// vector is #( and what came behind it.
type vector struct{ items []int }

// octets is #u8( and what came behind it.
type octets struct{ data []byte }

// quote is one of the four signs that stand for a list of a name and a datum.
type quote struct{ name string }

// label is #n=, by its number among all labels of the source: n may come again in another datum.
type label struct{ index int }

// skip is #; .
type skip struct{}

func (l *list) mayClose() bool   { return !l.dotted || l.whole() }
func (v *vector) mayClose() bool { return true }
func (o *octets) mayClose() bool { return true }
func (q quote) mayClose() bool   { return false }
func (l label) mayClose() bool   { return false }
func (s skip) mayClose() bool    { return false }

// mayDot tells whether a dot may come next.
func (l *list) mayDot() bool { return len(l.items) > 0 && !l.dotted }

// whole tells whether a dot and its datum came, so that nothing may come but the closing.
func (l *list) whole() bool { return len(l.tail) > 0 }
