package check_test

import (
	"reflect"
	"slices"
	"strings"

	"athanor/api"
	"athanor/heap"
	"athanor/store"
)

// The chapter written out a second time: instructions from the first to the last one, each with all states that came to it as whole rows of levels, and the table as rows that say what an instruction names, asks for, and where it leads.

// onLevel is a level of a state: how many values, and where it goes on (-1: nowhere).
type onLevel struct{ values, on int }

// lead is where an instruction leads, and with which levels.
type lead struct {
	to     int
	levels []onLevel
}

// modelRow is a row of the chapter's table: whether it names A and B, whether an instruction at a place may be where it is come to in a state, and where it leads.
type modelRow struct {
	namesA, namesB bool
	mayBe          func(c api.Code, ribs []int, at int, levels []onLevel) bool
	leads          func(i api.Ins, at int, levels []onLevel) []lead
}

// changed is a state whose last level has so many more values.
func changed(levels []onLevel, by int) []onLevel {
	out := slices.Clone(levels)
	out[len(out)-1].values += by
	return out
}

func modelTable() map[int]modelRow {
	always := func(api.Code, []int, int, []onLevel) bool { return true }
	next := func(i api.Ins, at int, levels []onLevel) []lead { return []lead{{at + 1, levels}} }
	nothing := func(api.Ins, int, []onLevel) []lead { return nil }
	names := func(kind int) modelRow {
		return modelRow{true, false, func(c api.Code, ribs []int, at int, levels []onLevel) bool {
			for place, k := range c.Consts {
				if place == c.Ins[at].A {
					return k.Kind == kind
				}
			}
			return false
		}, next}
	}
	local := modelRow{true, true, func(c api.Code, ribs []int, at int, levels []onLevel) bool {
		for away, has := range ribs {
			if away == c.Ins[at].A {
				return c.Ins[at].B >= 0 && c.Ins[at].B < has
			}
		}
		return false
	}, next}
	jump := func(leads func(i api.Ins, at int, levels []onLevel) []lead) modelRow {
		return modelRow{true, false, func(c api.Code, ribs []int, at int, levels []onLevel) bool {
			return !(c.Ins[at].A <= at || c.Ins[at].A >= len(c.Ins))
		}, leads}
	}
	last := func(levels []onLevel) int { return levels[len(levels)-1].values }
	return map[int]modelRow{
		api.IConst:  names(api.KDatum),
		api.IGlobal: names(api.KCell),
		api.ISetG:   names(api.KCell),
		api.IDefine: names(api.KOwn),
		api.IClose:  names(api.KCode),
		api.ILocal:  local,
		api.ISet:    local,
		api.IPrim: {true, false, func(c api.Code, ribs []int, at int, levels []onLevel) bool {
			return !(c.Ins[at].A < 0 || c.Ins[at].A > api.PrLoad)
		}, next},
		api.IUnset: {false, false, always, next},
		api.IPush: {false, false, always, func(i api.Ins, at int, levels []onLevel) []lead {
			return []lead{{at + 1, changed(levels, 1)}}
		}},
		api.IMark: {false, false, func(c api.Code, ribs []int, at int, levels []onLevel) bool {
			return last(levels) > 0
		}, func(i api.Ins, at int, levels []onLevel) []lead {
			return []lead{{at + 1, changed(levels, -1)}}
		}},
		api.IFrame: jump(func(i api.Ins, at int, levels []onLevel) []lead {
			return []lead{{at + 1, append(slices.Clone(levels), onLevel{0, i.A})}, {i.A, levels}}
		}),
		api.IJump: jump(func(i api.Ins, at int, levels []onLevel) []lead {
			return []lead{{i.A, levels}}
		}),
		api.IFalse: jump(func(i api.Ins, at int, levels []onLevel) []lead {
			return []lead{{at + 1, levels}, {i.A, levels}}
		}),
		api.ICall: {true, false, func(c api.Code, ribs []int, at int, levels []onLevel) bool {
			return c.Ins[at].A == last(levels)
		}, nothing},
		api.IReturn: {false, false, func(c api.Code, ribs []int, at int, levels []onLevel) bool {
			return last(levels) == 0
		}, nothing},
	}
}

// modelCheck is Check.
func modelCheck(c api.Code, ribs []int) api.Errno {
	if modelMayRun(c, ribs) {
		return api.OK
	}
	return api.ErrCode
}

func modelMayRun(c api.Code, around []int) bool {
	if !(c.Need >= 0 && c.Need <= api.MaxCore && len(c.Ins) >= 1 && len(c.Ins) <= api.MaxCode) {
		return false
	}
	ribs := append([]int{c.Need}, around...)
	if c.Rest {
		ribs[0]++
	}
	for _, k := range c.Consts {
		if !modelConst(k, ribs) {
			return false
		}
	}
	return modelWays(c, ribs)
}

// modelWays goes through the instructions once: since none leads back, all states that come to one are known when its turn comes.
func modelWays(c api.Code, ribs []int) bool {
	table := modelTable()
	came := make([][][]onLevel, len(c.Ins)+1)
	came[0] = [][]onLevel{{{0, -1}}}
	for at, i := range c.Ins {
		for _, levels := range came[at] {
			row, there := table[i.Op]
			if !there || !slices.Equal(levels, came[at][0]) || !row.namesA && i.A != 0 || !row.namesB && i.B != 0 || !row.mayBe(c, ribs, at, levels) {
				return false
			}
		}
		if len(came[at]) > 0 {
			for _, l := range table[i.Op].leads(i, at, came[at][0]) {
				came[l.to] = append(came[l.to], l.levels)
			}
		}
	}
	return len(came[len(c.Ins)]) == 0
}

// modelConst says whether a constant is as its kind asks: what it must have is taken out of it, and nothing may be left.
func modelConst(k api.Const, ribs []int) bool {
	ok := false
	switch k.Kind {
	case api.KDatum:
		h, _ := heap.New(1)
		_, err := store.Put(h, store.NewNames(), k.Datum)
		ok = len(k.Datum.Roots) == 1 && err != api.ErrGraph
		k.Datum = api.Graph{}
	case api.KCell, api.KOwn:
		ok = k.Env > -1 && len(k.Name) > 0 && strings.ToValidUTF8(k.Name, "") == k.Name
		k.Env, k.Name = 0, ""
	case api.KCode:
		ok = modelMayRun(k.Code, ribs)
		k.Code = api.Code{}
	}
	if len(k.Datum.Nodes)+len(k.Datum.Roots) == 0 {
		k.Datum = api.Graph{}
	}
	if len(k.Code.Ins)+len(k.Code.Consts) == 0 {
		k.Code.Ins, k.Code.Consts = nil, nil
	}
	return ok && reflect.DeepEqual(k, api.Const{Kind: k.Kind})
}
