package emit

import "athanor/api"

// deepest is how many core forms may stand within one another. The document promises nothing of trees past a depth of 10000; with an end to it, what holds itself is refused, too, and does not run over the stack.
const deepest = 1 << 16

// mayStandOutside tells whether a core form may be emitted. A definition stands outside alone.
func mayStandOutside(c *api.Core) bool {
	s := newScope()
	if c.Op == api.CDefine {
		return len(c.Kids) == 1 && s.may(&c.Kids[0], 1)
	}
	return s.may(c, 0)
}

// may tells whether a core form may be emitted within others, where the locals of the scope are bound.
func (s *scope) may(c *api.Core, deep int) bool {
	if deep > deepest || !mayHave(c.Op, len(c.Kids)) {
		return false
	}
	switch c.Op {
	case api.CConst:
		return len(c.Datum.Roots) == 1
	case api.CPrim:
		return 0 <= c.Num && c.Num < len(api.Prims)
	case api.CLocal, api.CSet:
		if !s.binds(c.Var) {
			return false
		}
	case api.CLambda:
		if !s.enter(c) {
			return false
		}
		defer s.leave(c)
	}
	for i := range c.Kids {
		if !s.may(&c.Kids[i], deep+1) {
			return false
		}
	}
	return true
}

// mayHave tells whether a core form that may stand within others has so many kids.
func mayHave(op, kids int) bool {
	switch op {
	case api.CConst, api.CLocal, api.CGlobal, api.CUnset, api.CPrim:
		return kids == 0
	case api.CSet, api.CSetG, api.CLambda:
		return kids == 1
	case api.CIf, api.CMark:
		return kids == 3
	case api.CSeq, api.CApp:
		return kids >= 1
	}
	return false
}
