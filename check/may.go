package check

import "athanor/api"

// mayBe tells whether the instruction at a place may be there, where a way comes to it with such a state.
func (w *walk) mayBe(at int, now state) bool {
	i := w.code.Ins[at]
	if i.Op == api.ILocal || i.Op == api.ISet {
		return w.has(i.A, i.B)
	}
	if i.B != 0 {
		return false
	}
	switch i.Op {
	case api.IConst:
		return w.isKind(i.A, api.KDatum)
	case api.IGlobal, api.ISetG:
		return w.isKind(i.A, api.KCell)
	case api.IDefine:
		return w.isKind(i.A, api.KOwn)
	case api.IClose:
		return w.isKind(i.A, api.KCode)
	case api.IPrim:
		return 0 <= i.A && i.A < len(api.Prims)
	case api.IUnset, api.IPush:
		return i.A == 0
	case api.IMark:
		return i.A == 0 && now.values != 0
	case api.IFrame, api.IJump, api.IFalse:
		return at < i.A && i.A < len(w.code.Ins)
	case api.ICall:
		return i.A == now.values
	case api.IReturn:
		return i.A == 0 && now.values == 0
	}
	return false
}

// isKind tells whether there is such a constant, of that kind.
func (w *walk) isKind(place, kind int) bool {
	return 0 <= place && place < len(w.code.Consts) && w.code.Consts[place].Kind == kind
}
