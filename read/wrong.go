package read

import (
	"strconv"

	"athanor/api"
)

// wrong tells what is wrong with the next token: where several things are, the one that the chapter names first.
func (r *reader) wrong(t api.Token) api.Errno {
	top := r.top()
	switch {
	case t.Kind == api.TkClose && (top == nil || !top.mayClose()):
		return api.ErrClose
	case t.Kind == api.TkEnd && top != nil:
		return api.ErrEnd
	case wrongDot(top, t):
		return api.ErrDot
	case r.wrongLabel(t):
		return api.ErrLabel
	case wrongByte(top, t):
		return api.ErrByte
	case t.Kind == api.TkClose && items(top) > api.MaxItems:
		return api.ErrLong
	case opens(t) && len(r.open) >= api.MaxDepth:
		return api.ErrDeep
	}
	return api.OK
}

// wrongDot tells whether a token is a dot that may not stand there, or stands behind a dot and its datum.
func wrongDot(top open, t api.Token) bool {
	l, ok := top.(*list)
	switch t.Kind {
	case api.TkDot:
		return !ok || !l.mayDot()
	case api.TkClose, api.TkSkip:
		return false
	}
	return ok && l.whole()
}

// wrongLabel tells whether a token is a label that is there already, or asks for one that is not, or for nothing but itself.
func (r *reader) wrongLabel(t api.Token) bool {
	index, there := r.labels[t.Num]
	switch t.Kind {
	case api.TkLabel:
		return there
	case api.TkRef:
		return !there || r.isOwn(index)
	}
	return false
}

// isOwn tells whether the datum of a label is the one that comes next: it has just the labels that wait on top.
func (r *reader) isOwn(index int) bool {
	place := r.follow(placeOf(index))
	for i := len(r.open) - 1; i >= 0; i-- {
		l, ok := r.open[i].(label)
		if !ok {
			return false
		}
		if placeOf(l.index) == place {
			return true
		}
	}
	return false
}

// wrongByte tells whether a token stands among bytes and may not.
func wrongByte(top open, t api.Token) bool {
	if _, ok := top.(*octets); !ok {
		return false
	}
	switch t.Kind {
	case api.TkInt:
		_, ok := byteOf(t.Text)
		return !ok
	case api.TkClose, api.TkSkip:
		return false
	}
	return true
}

// byteOf is the byte that an integer is, if it is one.
func byteOf(text string) (byte, bool) {
	n, err := strconv.ParseUint(text, 10, 8)
	return byte(n), err == nil
}

// items is how many items a vector or bytes have; a list has as many as it likes.
func items(top open) int {
	switch o := top.(type) {
	case *vector:
		return len(o.items)
	case *octets:
		return len(o.data)
	}
	return 0
}

// opens tells whether other things may stand within what a token begins.
func opens(t api.Token) bool {
	switch t.Kind {
	case api.TkOpen, api.TkVector, api.TkBytes, api.TkQuote, api.TkLabel, api.TkSkip:
		return true
	}
	return false
}
