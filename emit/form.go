package emit

import "athanor/api"

// plain emits a core form so that its value is at hand behind it. Where there is no room any more, nothing is worth going on for.
func (m *maker) plain(c *api.Core) {
	if m.full {
		return
	}
	switch c.Op {
	case api.CConst:
		m.constant(api.IConst, api.Const{Kind: api.KDatum, Datum: c.Datum})
	case api.CLocal:
		m.local(api.ILocal, c.Var)
	case api.CGlobal:
		m.constant(api.IGlobal, cell(api.KCell, c))
	case api.CPrim:
		m.put(api.IPrim, c.Num, 0)
	case api.CUnset:
		m.put(api.IUnset, 0, 0)
	case api.CSet, api.CSetG, api.CDefine:
		m.assign(c)
	case api.CLambda:
		m.constant(api.IClose, api.Const{Kind: api.KCode, Code: m.within(c)})
	case api.CIf:
		m.choose(c)
	case api.CSeq:
		m.each(c.Kids)
	default:
		m.framed(c)
	}
}

// tail emits a core form so that its value is what the code answers.
func (m *maker) tail(c *api.Core) {
	if m.full {
		return
	}
	last := len(c.Kids) - 1
	switch c.Op {
	case api.CIf:
		m.plain(&c.Kids[0])
		third := m.ahead(api.IFalse)
		m.tail(&c.Kids[1])
		third()
		m.tail(&c.Kids[2])
	case api.CSeq:
		m.each(c.Kids[:last])
		m.tail(&c.Kids[last])
	case api.CApp:
		m.pushed(c.Kids[:last])
		m.plain(&c.Kids[last])
		m.put(api.ICall, last, 0)
	case api.CMark:
		m.pushed(c.Kids[:1])
		m.plain(&c.Kids[1])
		m.put(api.IMark, 0, 0)
		m.tail(&c.Kids[2])
	default:
		m.plain(c)
		m.put(api.IReturn, 0, 0)
	}
}

// cell is a constant that names a cell.
func cell(kind int, c *api.Core) api.Const {
	return api.Const{Kind: kind, Env: c.Env, Name: c.Name}
}

// assign emits what gives something a value.
func (m *maker) assign(c *api.Core) {
	m.plain(&c.Kids[0])
	switch c.Op {
	case api.CSet:
		m.local(api.ISet, c.Var)
	case api.CSetG:
		m.constant(api.ISetG, cell(api.KCell, c))
	default:
		m.constant(api.IDefine, cell(api.KOwn, c))
	}
}

// choose emits a choice, behind which it goes on.
func (m *maker) choose(c *api.Core) {
	m.plain(&c.Kids[0])
	third := m.ahead(api.IFalse)
	m.plain(&c.Kids[1])
	behind := m.ahead(api.IJump)
	third()
	m.plain(&c.Kids[2])
	behind()
}

// framed emits a call or a mark behind which it goes on: in a frame of its own it is a tail.
func (m *maker) framed(c *api.Core) {
	behind := m.ahead(api.IFrame)
	m.tail(c)
	behind()
}

// each emits core forms one by one.
func (m *maker) each(all []api.Core) {
	for i := range all {
		m.plain(&all[i])
	}
}

// pushed emits core forms whose values lie on the stack in the end.
func (m *maker) pushed(all []api.Core) {
	for i := range all {
		m.plain(&all[i])
		m.put(api.IPush, 0, 0)
	}
}
