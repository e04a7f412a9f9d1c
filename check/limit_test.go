package check_test

import (
	"math"
	"slices"
	"strconv"
	"testing"

	"athanor/api"
)

// Promise 15.1: the bounds, at them and past them.

func TestNeed(t *testing.T) {
	for need, want := range map[int]string{math.MinInt: "ErrCode", -2: "ErrCode", -1: "ErrCode", 0: "OK", 1: "OK", 2: "OK", api.MaxCore - 1: "OK", api.MaxCore: "OK", api.MaxCore + 1: "ErrCode", 2 * api.MaxCore: "ErrCode", math.MaxInt: "ErrCode"} {
		for _, rest := range []bool{false, true} {
			for _, source := range []string{"IReturn", "IUnset, IReturn ['1]", "IReturn [{IReturn}]"} {
				c := codeOf(source)
				c.Need, c.Rest = need, rest
				checkOne(t, "parameters "+strconv.Itoa(need), c, nil, want)
				checkOne(t, "parameters "+strconv.Itoa(need), c, []int{need}, want)
				checkOne(t, "within, parameters "+strconv.Itoa(need), api.Code{Consts: []api.Const{inner(c)}, Ins: c.Ins}, nil, want)
			}
		}
	}
	most := strconv.Itoa(api.MaxCore)
	checkAll(t, nil,
		most+": ILocal 0 "+strconv.Itoa(api.MaxCore-1)+", IReturn", "OK",
		most+": ILocal 0 "+most+", IReturn", "ErrCode",
		most+"+: ILocal 0 "+most+", IReturn", "OK",
		most+"+: ILocal 0 "+strconv.Itoa(api.MaxCore+1)+", IReturn", "ErrCode",
	)
}

// row is so many instructions that are alike, and some behind them.
func row(n int, i api.Ins, behind ...api.Ins) []api.Ins {
	return append(slices.Repeat([]api.Ins{i}, n), behind...)
}

func TestHowManyInstructions(t *testing.T) {
	for n, want := range map[int]string{1: "OK", 2: "OK", api.MaxCode - 1: "OK", api.MaxCode: "OK", api.MaxCode + 1: "ErrCode", api.MaxCode + 2: "ErrCode", 3 * api.MaxCode: "ErrCode"} {
		for what, ins := range map[string][]api.Ins{
			"one behind the other": row(n-1, api.Ins{Op: api.IUnset}, api.Ins{Op: api.IReturn}),
			"pushes":               row(n-1, api.Ins{Op: api.IPush}, api.Ins{Op: api.ICall, A: n - 1}),
			"where no way leads":   row(n, api.Ins{Op: api.IReturn}),
			"choices":              row(n-1, api.Ins{Op: api.IFalse, A: n - 1}, api.Ins{Op: api.IReturn}),
			"a jump past all":      append([]api.Ins{{Op: api.IJump, A: n - 1}}, row(n-1, api.Ins{Op: api.IReturn})...),
		} {
			if n == 1 {
				ins = row(1, api.Ins{Op: api.IReturn})
			}
			c := api.Code{Ins: ins}
			checkOne(t, what+" "+strconv.Itoa(n), c, nil, want)
			checkOne(t, what+", within, "+strconv.Itoa(n), api.Code{Consts: []api.Const{inner(c)}, Ins: codeOf("IReturn").Ins}, nil, want)
			checkOne(t, what+", around, "+strconv.Itoa(n), api.Code{Consts: []api.Const{inner(codeOf("IReturn"))}, Ins: ins}, nil, want)
		}
	}
	checkOne(t, "none", api.Code{Ins: []api.Ins{}}, nil, "ErrCode")
	checkOne(t, "none, but constants", api.Code{Need: 1, Consts: []api.Const{datum("1")}}, nil, "ErrCode")
}

// There is no bound for constants.
func TestManyConstants(t *testing.T) {
	c := codeOf("IGlobal 200000, IReturn")
	c.Consts = slices.Repeat([]api.Const{{Kind: api.KCell, Name: "x"}}, 200001)
	checkOne(t, "many constants", c, nil, "OK")
	c.Consts[199999].Name = ""
	checkOne(t, "many constants", c, nil, "ErrCode")
}

// nested are frames within one another, each of which goes on behind the one within it; in the innermost one, some instructions.
func nested(deep int, within ...api.Ins) []api.Ins {
	var ins []api.Ins
	for i := range deep {
		ins = append(ins, api.Ins{Op: api.IFrame, A: 2*deep - 1 - i + len(within)})
	}
	return append(append(ins, within...), row(deep, api.Ins{Op: api.IReturn})...)
}

func TestDeepLevels(t *testing.T) {
	const deep = api.MaxCode/2 - 1
	ret, push := api.Ins{Op: api.IReturn}, api.Ins{Op: api.IPush}
	checkOne(t, "frames", api.Code{Ins: nested(deep, ret)}, nil, "OK")
	checkOne(t, "frames", api.Code{Ins: nested(deep, push, api.Ins{Op: api.ICall, A: 1})}, nil, "OK")
	checkOne(t, "frames", api.Code{Ins: nested(deep, push, ret)}, nil, "ErrCode")
	checkOne(t, "frames", api.Code{Ins: nested(deep, api.Ins{Op: api.IMark}, ret)}, nil, "ErrCode")
	for _, at := range []int{deep + 1, deep + 2, 3 * deep / 2, 2*deep - 1, 2 * deep} {
		for _, other := range []api.Ins{push, {Op: api.ICall, A: 1}, {Op: api.IUnset}, {Op: api.IMark}} {
			ins := nested(deep, ret)
			ins[at] = other
			checkOne(t, "frames, and one that does not return", api.Code{Ins: ins}, nil, "ErrCode")
		}
	}
	// Each level with a value that is taken when it goes on.
	var ins []api.Ins
	const some = api.MaxCode / 4
	for i := range some {
		ins = append(ins, push, api.Ins{Op: api.IFrame, A: 3*some - i})
	}
	ins = append(ins, api.Ins{Op: api.ICall})
	checkOne(t, "values below", api.Code{Ins: append(slices.Clone(ins), row(some, api.Ins{Op: api.ICall, A: 1})...)}, nil, "OK")
	checkOne(t, "values below", api.Code{Ins: append(slices.Clone(ins), row(some, ret)...)}, nil, "ErrCode")
	ends := row(some, api.Ins{Op: api.ICall, A: 1})
	ends[some-1].A = 2
	checkOne(t, "values below", api.Code{Ins: append(slices.Clone(ins), ends...)}, nil, "ErrCode")
}

// Two ways that come with very many levels, which differ in the outermost one, or nowhere.
func TestDeepLevelsMeet(t *testing.T) {
	const deep = 10000
	for first, want := range map[int]string{0: "OK", 1: "ErrCode", 2: "ErrCode"} {
		var ins []api.Ins
		end := 2*deep + 2 // where both ways meet
		frames := func(n, first int) {
			for i := range n {
				a := end + 1 + deep - i
				if i == 0 {
					a += first
				}
				ins = append(ins, api.Ins{Op: api.IFrame, A: a})
			}
		}
		ins = append(ins, api.Ins{Op: api.IFalse, A: deep + 2})
		frames(deep, 0)
		ins = append(ins, api.Ins{Op: api.IJump, A: end})
		frames(deep, first)
		ins = append(ins, row(deep+5, api.Ins{Op: api.IReturn})...)
		checkOne(t, "levels that meet, "+strconv.Itoa(first), api.Code{Ins: ins}, nil, want)
	}
}

// There are more ways through these than could be followed one by one.
func TestManyWays(t *testing.T) {
	const n = api.MaxCode / 4
	var ins []api.Ins
	for i := range n - 1 {
		ins = append(ins, api.Ins{Op: api.IFalse, A: 4*i + 3}, api.Ins{Op: api.IUnset}, api.Ins{Op: api.IJump, A: 4*i + 4}, api.Ins{Op: api.IUnset})
	}
	good := append(slices.Clone(ins), api.Ins{Op: api.IReturn})
	checkOne(t, "choices", api.Code{Ins: good}, nil, "OK")
	for _, at := range []int{1, 3, 4*n - 5, 4*n - 7, 2*n + 1} {
		bad := slices.Clone(good)
		bad[at].Op = api.IPush
		checkOne(t, "choices", api.Code{Ins: bad}, nil, "ErrCode")
	}
	ins = nil
	for i := range api.MaxCode - 2 {
		ins = append(ins, api.Ins{Op: api.IFalse, A: i + 2})
	}
	ins = append(ins, row(2, api.Ins{Op: api.IReturn})...)
	checkOne(t, "choices", api.Code{Ins: ins}, nil, "OK")
	ins[api.MaxCode-2].Op = api.IPush
	checkOne(t, "choices", api.Code{Ins: ins}, nil, "ErrCode")
}

// Codes may stand 10000 deep in one another.
func TestDeepCodes(t *testing.T) {
	const deep = 10000
	build := func(innermost string) api.Code {
		c := codeOf(innermost)
		for i := range deep {
			around := codeOf("IClose 0, IReturn")
			around.Need = i % 7
			around.Consts = []api.Const{inner(c)}
			c = around
		}
		return c
	}
	ribs := []int{5}
	checkOne(t, "deep", build("3: ILocal 0 2, IReturn"), ribs, "OK")
	checkOne(t, "deep", build("3: ILocal 0 3, IReturn"), ribs, "ErrCode")
	checkOne(t, "deep", build("IPush, IReturn"), ribs, "ErrCode")
	for away := 1; away <= deep; away++ {
		if away%997 == 1 || away > deep-3 {
			has := (away - 1) % 7
			want := "OK"
			if has == 0 {
				want = "ErrCode"
			}
			checkOne(t, "deep", build("ILocal "+strconv.Itoa(away)+" "+strconv.Itoa(max(0, has-1))+", IReturn"), ribs, want)
			checkOne(t, "deep", build("ILocal "+strconv.Itoa(away)+" "+strconv.Itoa(has)+", IReturn"), ribs, "ErrCode")
		}
	}
	far := strconv.Itoa(deep + 1)
	checkOne(t, "deep", build("ILocal "+far+" 4, IReturn"), ribs, "OK")
	checkOne(t, "deep", build("ILocal "+far+" 5, IReturn"), ribs, "ErrCode")
	checkOne(t, "deep", build("ILocal "+strconv.Itoa(deep+2)+" 0, IReturn"), ribs, "ErrCode")
}
