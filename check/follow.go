package check

import "athanor/api"

// level is a level with another one on it: which levels lie below it, how many values it has, and where the one on it goes on.
type level struct{ below, values, on int }

// state is what is known where a way leads: which levels lie below the last one (0: none), and how many values that one has.
type state struct{ below, values int }

// way is where a way leads that is still to be followed, and with which state.
type way struct {
	at  int
	now state
}

// walk goes along all ways through a code. Rows of levels have numbers, equal ones the same number, so that states are held against each other at once, however many levels they have.
type walk struct {
	*scope
	code   *api.Code
	states map[int]state
	rows   map[level]int
	open   []way
}

// follow tells whether each way from the first instruction on is as it may be: it is followed till it ends, or comes where another one was.
func (w *walk) follow() bool {
	w.open = []way{{}}
ways:
	for len(w.open) > 0 {
		at, now := w.last()
		for {
			if at == len(w.code.Ins) {
				return false
			}
			if was, there := w.states[at]; there {
				if was != now {
					return false
				}
				continue ways
			}
			w.states[at] = now
			if !w.mayBe(at, now) {
				return false
			}
			switch i := w.code.Ins[at]; i.Op {
			case api.ICall, api.IReturn:
				continue ways
			case api.IJump:
				at = i.A
				continue
			case api.IFalse:
				w.open = append(w.open, way{i.A, now})
			case api.IFrame:
				w.open = append(w.open, way{i.A, now})
				now = state{below: w.row(level{now.below, now.values, i.A})}
			case api.IPush:
				now.values++
			case api.IMark:
				now.values--
			}
			at++
		}
	}
	return true
}

// last takes the way that was left open last.
func (w *walk) last() (at int, now state) {
	end := len(w.open) - 1
	next := w.open[end]
	w.open = w.open[:end]
	return next.at, next.now
}

// row is the number of a row of levels, by the last one of it: from 1 on.
func (w *walk) row(last level) int {
	number, there := w.rows[last]
	if !there {
		number = len(w.rows) + 1
		w.rows[last] = number
	}
	return number
}
