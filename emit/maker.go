package emit

import "athanor/api"

// maker is a code that is being made, and where its locals stand.
type maker struct {
	scope *scope
	code  api.Code
	full  bool // it, or a code within it, would have more instructions than may be
}

// put puts an instruction behind the others.
func (m *maker) put(op, a, b int) {
	if len(m.code.Ins) == api.MaxCode {
		m.full = true
	}
	if !m.full {
		m.code.Ins = append(m.code.Ins, api.Ins{Op: op, A: a, B: b})
	}
}

// constant puts an instruction with a constant of its own.
func (m *maker) constant(op int, k api.Const) {
	m.put(op, len(m.code.Consts), 0)
	if !m.full {
		m.code.Consts = append(m.code.Consts, k)
	}
}

// local puts an instruction that is about a local.
func (m *maker) local(op, number int) {
	away, at := m.scope.find(number)
	m.put(op, away, at)
}

// ahead puts an instruction that leads to a place further on. Who calls what it answers says that the place has come: it is that of the next instruction then.
func (m *maker) ahead(op int) func() {
	at := len(m.code.Ins)
	m.put(op, 0, 0)
	return func() {
		if !m.full {
			m.code.Ins[at].A = len(m.code.Ins)
		}
	}
}

// within is the code of a lambda that stands in this one.
func (m *maker) within(c *api.Core) api.Code {
	m.scope.enter(c)
	inner := maker{scope: m.scope, code: api.Code{Need: len(c.Params), Rest: c.Rest != 0}}
	inner.tail(&c.Kids[0])
	m.scope.leave(c)
	m.full = m.full || inner.full
	return inner.code
}
