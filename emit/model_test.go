package emit_test

import (
	"slices"

	"athanor/api"
)

// The chapter written out a second time: rows of steps that are laid one behind the other, each of which holds its constant, and says how many steps on it leads; what they are is told by a last walk.

// step is an instruction that does not know yet where it stands.
type step struct {
	ins   api.Ins
	on    int // leads so many steps on; 0: nowhere
	holds []api.Const
}

func one(op int) []step { return []step{{ins: api.Ins{Op: op}}} }

func onwards(op, on int) []step { return []step{{ins: api.Ins{Op: op}, on: on}} }

func holding(op int, k api.Const) []step {
	return []step{{ins: api.Ins{Op: op}, holds: []api.Const{k}}}
}

func about(op, number int, ribs [][]int) []step {
	for away, rib := range ribs {
		if at := slices.Index(rib, number); at >= 0 {
			return []step{{ins: api.Ins{Op: op, A: away, B: at}}}
		}
	}
	panic("it is bound around")
}

func cellOf(kind int, c api.Core) api.Const {
	return api.Const{Kind: kind, Env: c.Env, Name: c.Name}
}

// ribOf is a lambda's rib.
func ribOf(c api.Core) []int {
	rib := slices.Clone(c.Params)
	if c.Rest != 0 {
		rib = append(rib, c.Rest)
	}
	return rib
}

// modelPlain is the row of a core form whose value is at hand behind it; ribs: the innermost one first.
func modelPlain(c api.Core, ribs [][]int) []step {
	kid := func(i int) []step { return modelPlain(c.Kids[i], ribs) }
	switch c.Op {
	case api.CConst:
		return holding(api.IConst, api.Const{Kind: api.KDatum, Datum: c.Datum})
	case api.CLocal:
		return about(api.ILocal, c.Var, ribs)
	case api.CGlobal:
		return holding(api.IGlobal, cellOf(api.KCell, c))
	case api.CPrim:
		return []step{{ins: api.Ins{Op: api.IPrim, A: c.Num}}}
	case api.CUnset:
		return one(api.IUnset)
	case api.CSet:
		return append(kid(0), about(api.ISet, c.Var, ribs)...)
	case api.CSetG:
		return append(kid(0), holding(api.ISetG, cellOf(api.KCell, c))...)
	case api.CDefine:
		return append(kid(0), holding(api.IDefine, cellOf(api.KOwn, c))...)
	case api.CLambda:
		inner := codeOf(modelTail(c.Kids[0], append([][]int{ribOf(c)}, ribs...)))
		inner.Need, inner.Rest = len(c.Params), c.Rest != 0
		return holding(api.IClose, api.Const{Kind: api.KCode, Code: inner})
	case api.CIf:
		second, third := kid(1), kid(2)
		return slices.Concat(kid(0), onwards(api.IFalse, len(second)+2), second, onwards(api.IJump, len(third)+1), third)
	case api.CSeq:
		var all []step
		for i := range c.Kids {
			all = append(all, kid(i)...)
		}
		return all
	}
	inner := modelTail(c, ribs)
	return append(onwards(api.IFrame, len(inner)+1), inner...)
}

// modelTail is the row of a core form in tail position.
func modelTail(c api.Core, ribs [][]int) []step {
	kid := func(i int) []step { return modelPlain(c.Kids[i], ribs) }
	var all []step
	switch c.Op {
	case api.CIf:
		second := modelTail(c.Kids[1], ribs)
		return slices.Concat(kid(0), onwards(api.IFalse, len(second)+1), second, modelTail(c.Kids[2], ribs))
	case api.CSeq:
		for i := range len(c.Kids) - 1 {
			all = append(all, kid(i)...)
		}
		return append(all, modelTail(c.Kids[len(c.Kids)-1], ribs)...)
	case api.CApp:
		for i := range c.Kids {
			if all = append(all, kid(i)...); i < len(c.Kids)-1 {
				all = append(all, one(api.IPush)...)
			}
		}
		return append(all, step{ins: api.Ins{Op: api.ICall, A: len(c.Kids) - 1}})
	case api.CMark:
		return slices.Concat(kid(0), one(api.IPush), kid(1), one(api.IMark), modelTail(c.Kids[2], ribs))
	}
	return append(modelPlain(c, ribs), one(api.IReturn)...)
}

// codeOf tells what steps are: where they lead, and which constants they have.
func codeOf(all []step) api.Code {
	var out api.Code
	for at, s := range all {
		if s.on > 0 {
			s.ins.A = at + s.on
		}
		for _, k := range s.holds {
			s.ins.A = len(out.Consts)
			out.Consts = append(out.Consts, k)
		}
		out.Ins = append(out.Ins, s.ins)
	}
	return out
}

// modelMay tells whether a core form may be emitted, where such locals are bound around.
func modelMay(c api.Core, outside bool, around []int) bool {
	least := map[int]int{api.CSet: 1, api.CSetG: 1, api.CDefine: 1, api.CLambda: 1, api.CIf: 3, api.CMark: 3, api.CSeq: 1, api.CApp: 1}[c.Op]
	more := c.Op == api.CSeq || c.Op == api.CApp
	rib := ribOf(c)
	switch {
	case c.Op < 1 || c.Op > 13, len(c.Kids) < least, len(c.Kids) > least && !more:
		return false
	case c.Op == api.CDefine && !outside:
		return false
	case c.Op == api.CConst && len(c.Datum.Roots) != 1:
		return false
	case c.Op == api.CPrim && (c.Num < 0 || c.Num > api.PrLoad):
		return false
	case (c.Op == api.CLocal || c.Op == api.CSet) && !slices.Contains(around, c.Var):
		return false
	case c.Op == api.CLambda:
		for i, n := range rib {
			if slices.Contains(rib[:i], n) {
				return false
			}
		}
		around = append(slices.Clone(around), rib...)
	}
	return !slices.ContainsFunc(c.Kids, func(k api.Core) bool { return !modelMay(k, false, around) })
}

// modelEmit is Emit by the words.
func modelEmit(c api.Core) (api.Code, api.Errno) {
	if !modelMay(c, true, nil) {
		return api.Code{}, api.ErrSyntax
	}
	code := codeOf(modelTail(c, nil))
	full := false
	each(code, func(c api.Code) { full = full || len(c.Ins) > api.MaxCode })
	if full {
		return api.Code{}, api.ErrFull
	}
	return code, api.OK
}
