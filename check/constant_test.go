package check_test

import (
	"math"
	"strings"
	"testing"

	"athanor/api"
	"athanor/check"
	"athanor/graph"
)

// Promise 15.1: each kind of constant, as it may be, and as it may not be; whether an instruction names it or not.

// with is code that has such a constant, and names it if it may.
func with(k api.Const, named bool) api.Code {
	op := map[int]int{api.KDatum: api.IConst, api.KCell: api.IGlobal, api.KOwn: api.IDefine, api.KCode: api.IClose}[k.Kind]
	ins := []api.Ins{{Op: op}, {Op: api.IReturn}}
	if !named || op == 0 {
		ins[0] = api.Ins{Op: api.IUnset}
	}
	return api.Code{Consts: []api.Const{k}, Ins: ins}
}

// checkConst holds whether a constant may be: named or not, alone and beside others, and in a code within a code.
func checkConst(t *testing.T, what string, k api.Const, want string) {
	t.Helper()
	for _, named := range []bool{true, false} {
		c := with(k, named)
		checkOne(t, what, c, nil, want)
		checkOne(t, what+", within", with(inner(c), named), nil, want)
		good := []api.Const{datum("1"), {Kind: api.KCell, Name: "x"}, {Kind: api.KOwn, Name: "x"}, inner(codeOf("IReturn"))}
		c.Consts = append(c.Consts, good...)
		checkOne(t, what+", ahead of others", c, nil, want)
		checkOne(t, what+", behind others", api.Code{Consts: append(good, k), Ins: codeOf("IReturn").Ins}, nil, want)
	}
}

func TestData(t *testing.T) {
	for _, source := range []string{"1", "-5", "123456789012345678901234567890", "#t", "#f", "()", "#\\a", "\"\"", "\"text\"", "name", "(1 . 2)", "(a b c)", "#(1 2)", "#()", "#u8(1 2)", "#u8()", "#0=(a . #0#)", "#0=#(#0#)", "(quote x)"} {
		checkConst(t, source, datum(source), "OK")
	}
	for _, kind := range []int{api.GEof, api.GVoid} {
		checkConst(t, "eof, void", api.Const{Kind: api.KDatum, Datum: api.Graph{Nodes: []api.Node{{Kind: kind}}, Roots: []int{0}}}, "OK")
	}
	checkConst(t, "no root", datum(""), "ErrCode")
	checkConst(t, "two roots", datum("1 2"), "ErrCode")
	twice := datum("1")
	twice.Datum.Roots = []int{0, 0}
	checkConst(t, "one root twice", twice, "ErrCode")
	none := datum("(1 2)")
	none.Datum.Roots = nil
	checkConst(t, "nodes without a root", none, "ErrCode")
	for what, g := range map[string]api.Graph{
		"a root that is not there":   {Nodes: []api.Node{{Kind: api.GNull}}, Roots: []int{1}},
		"a root below 0":             {Nodes: []api.Node{{Kind: api.GNull}}, Roots: []int{-1}},
		"a root without nodes":       {Roots: []int{0}},
		"a kind of 0":                {Nodes: []api.Node{{}}, Roots: []int{0}},
		"a kind that there is none":  {Nodes: []api.Node{{Kind: 18}}, Roots: []int{0}},
		"a kid that is not there":    {Nodes: []api.Node{{Kind: api.GPair, Kids: []int{0, 1}}}, Roots: []int{0}},
		"a pair of one":              {Nodes: []api.Node{{Kind: api.GPair, Kids: []int{0}}}, Roots: []int{0}},
		"a number without digits":    {Nodes: []api.Node{{Kind: api.GInt}}, Roots: []int{0}},
		"a number of letters":        {Nodes: []api.Node{{Kind: api.GInt, Text: "x"}}, Roots: []int{0}},
		"a letter past all":          {Nodes: []api.Node{{Kind: api.GChar, Num: 0x110000}}, Roots: []int{0}},
		"a truth of 2":               {Nodes: []api.Node{{Kind: api.GBool, Num: 2}}, Roots: []int{0}},
		"a text that is no UTF-8":    {Nodes: []api.Node{{Kind: api.GString, Text: "\xff"}}, Roots: []int{0}},
		"a name that is none":        {Nodes: []api.Node{{Kind: api.GSym}}, Roots: []int{0}},
		"an atom with a kid":         {Nodes: []api.Node{{Kind: api.GNull, Kids: []int{0}}}, Roots: []int{0}},
		"a vector too long":          {Nodes: []api.Node{{Kind: api.GVector, Kids: make([]int, api.MaxItems+1)}}, Roots: []int{0}},
		"a procedure":                {Nodes: []api.Node{{Kind: api.GProc}}, Roots: []int{0}},
		"a condition":                {Nodes: []api.Node{{Kind: api.GCond, Kids: []int{1, 1}}, {Kind: api.GNull}}, Roots: []int{0}},
		"an environment":             {Nodes: []api.Node{{Kind: api.GEnv}}, Roots: []int{0}},
		"a record":                   {Nodes: []api.Node{{Kind: api.GRecord}}, Roots: []int{0}},
		"values":                     {Nodes: []api.Node{{Kind: api.GValues}}, Roots: []int{0}},
		"a port":                     {Nodes: []api.Node{{Kind: api.GPort}}, Roots: []int{0}},
		"a procedure within":         {Nodes: []api.Node{{Kind: api.GPair, Kids: []int{1, 1}}, {Kind: api.GProc}}, Roots: []int{0}},
		"a port at a vector's end":   {Nodes: []api.Node{{Kind: api.GVector, Kids: []int{1, 1, 2}}, {Kind: api.GNull}, {Kind: api.GPort}}, Roots: []int{0}},
		"what is not met is no node": {Nodes: []api.Node{{Kind: api.GNull}, {Kind: -1}}, Roots: []int{0}},
	} {
		checkConst(t, what, api.Const{Kind: api.KDatum, Datum: g}, "ErrCode")
	}
	// A port that is not met is no part of what is laid.
	checkConst(t, "a port that is not met", api.Const{Kind: api.KDatum, Datum: api.Graph{Nodes: []api.Node{{Kind: api.GNull}, {Kind: api.GPort}}, Roots: []int{0}}}, "OK")
	checkConst(t, "a vector just so long", api.Const{Kind: api.KDatum, Datum: api.Graph{Nodes: []api.Node{{Kind: api.GVector, Kids: make([]int, api.MaxItems)}}, Roots: []int{0}}}, "OK")
	list := datum("(a b c)")
	list.Datum.Roots = append([]int{}, list.Datum.Nodes[list.Datum.Roots[0]].Kids[1])
	checkConst(t, "a root within", list, "OK")
	joined := graph.Join(datum("1").Datum, datum("2").Datum)
	checkConst(t, "joined", api.Const{Kind: api.KDatum, Datum: joined}, "ErrCode")
}

func TestCells(t *testing.T) {
	for _, kind := range []int{api.KCell, api.KOwn} {
		for _, name := range []string{"x", "define", "car", "two words", "é", "λ", "\U0010FFFF", "\x00", " ", "�", strings.Repeat("long", 1<<16)} {
			for _, env := range []int{0, 1, 2, 1 << 40, math.MaxInt} {
				checkConst(t, "a cell", api.Const{Kind: kind, Name: name, Env: env}, "OK")
			}
			for _, env := range []int{-1, -2, math.MinInt} {
				checkConst(t, "an environment below 0", api.Const{Kind: kind, Name: name, Env: env}, "ErrCode")
			}
		}
		for _, name := range []string{"", "\xff", "a\xff", "\xc3", "a\xc3", "\xed\xa0\x80", "\xc0\x80", "\xf4\x90\x80\x80", "\x80"} {
			checkConst(t, "a name that is none: "+name, api.Const{Kind: kind, Name: name}, "ErrCode")
			checkConst(t, "a name that is none: "+name, api.Const{Kind: kind, Name: name, Env: 1}, "ErrCode")
		}
	}
}

func TestKindsOfConstants(t *testing.T) {
	for _, kind := range []int{0, -1, 5, 6, 100, math.MaxInt, math.MinInt} {
		for _, k := range []api.Const{{}, datum("1"), {Name: "x"}, inner(codeOf("IReturn"))} {
			k.Kind = kind
			checkConst(t, "a kind that is none", k, "ErrCode")
		}
	}
}

// What a kind does not have is zero.
func TestNothingElse(t *testing.T) {
	good := map[int]api.Const{api.KDatum: datum("1"), api.KCell: {Kind: api.KCell, Name: "x"}, api.KOwn: {Kind: api.KOwn, Name: "x"}, api.KCode: inner(codeOf("1+: IReturn ['1]"))}
	type part struct {
		name string
		put  func(k *api.Const)
	}
	data := []part{
		{"nodes", func(k *api.Const) { k.Datum.Nodes = []api.Node{{Kind: api.GNull}} }},
		{"a node of nothing", func(k *api.Const) { k.Datum.Nodes = make([]api.Node, 1) }},
		{"roots", func(k *api.Const) { k.Datum.Roots = []int{0} }},
		{"a datum", func(k *api.Const) { k.Datum = datum("(1 2)").Datum }},
	}
	names := []part{
		{"an environment", func(k *api.Const) { k.Env = 1 }},
		{"an environment below 0", func(k *api.Const) { k.Env = -1 }},
		{"a name", func(k *api.Const) { k.Name = "x" }},
		{"a name that is none", func(k *api.Const) { k.Name = "\xff" }},
	}
	codes := []part{
		{"parameters", func(k *api.Const) { k.Code.Need = 1 }},
		{"parameters below 0", func(k *api.Const) { k.Code.Need = -1 }},
		{"a rest", func(k *api.Const) { k.Code.Rest = true }},
		{"constants", func(k *api.Const) { k.Code.Consts = make([]api.Const, 1) }},
		{"instructions", func(k *api.Const) { k.Code.Ins = make([]api.Ins, 1) }},
		{"a code", func(k *api.Const) { k.Code = codeOf("IReturn") }},
	}
	for kind, k := range good {
		checkConst(t, "as it may be", k, "OK")
		var bad []part
		if kind != api.KDatum {
			bad = append(bad, data...)
		}
		if kind == api.KDatum || kind == api.KCode {
			bad = append(bad, names...)
		}
		if kind != api.KCode {
			bad = append(bad, codes...)
		}
		for _, p := range bad {
			other := k
			p.put(&other)
			checkConst(t, "kind "+string(rune('0'+kind))+" with "+p.name, other, "ErrCode")
		}
		// Lists that are empty are none, be they nil or not.
		empty := k
		if kind != api.KDatum {
			empty.Datum = api.Graph{Nodes: []api.Node{}, Roots: []int{}}
		}
		if kind != api.KCode {
			empty.Code = api.Code{Consts: []api.Const{}, Ins: []api.Ins{}}
		}
		checkConst(t, "empty lists", empty, "OK")
	}
}

// A code within a code checks with its own rib, that of the code around it, and the ribs around that.
func TestCodesWithin(t *testing.T) {
	checkAll(t, []int{4, 5},
		"IClose 0, IReturn [{IReturn}]", "OK",
		"IClose 0, IReturn [{}]", "ErrCode",
		"IClose 0, IReturn [{IPush, IReturn}]", "ErrCode",
		"IReturn [{IPush, IReturn}]", "ErrCode",
		"1: IClose 0, IReturn [{2: ILocal 0 1, IReturn}]", "OK",
		"1: IClose 0, IReturn [{2: ILocal 0 2, IReturn}]", "ErrCode",
		"1: IClose 0, IReturn [{2: ILocal 1 0, IReturn}]", "OK",
		"1: IClose 0, IReturn [{2: ILocal 1 1, IReturn}]", "ErrCode",
		"1+: IClose 0, IReturn [{2: ILocal 1 1, IReturn}]", "OK",
		"1: IClose 0, IReturn [{2: ILocal 2 3, IReturn}]", "OK",
		"1: IClose 0, IReturn [{2: ILocal 2 4, IReturn}]", "ErrCode",
		"1: IClose 0, IReturn [{2: ILocal 3 4, IReturn}]", "OK",
		"1: IClose 0, IReturn [{2: ILocal 3 5, IReturn}]", "ErrCode",
		"1: IClose 0, IReturn [{2: ILocal 4 0, IReturn}]", "ErrCode",
		"1: IClose 0, IReturn [{2: IClose 0, IReturn [{3: ILocal 0 2, ILocal 1 1, ILocal 2 0, ILocal 3 3, ILocal 4 4, IReturn}]}]", "OK",
		"1: IClose 0, IReturn [{2: IClose 0, IReturn [{3: ILocal 1 2, IReturn}]}]", "ErrCode",
		"1: IClose 0, IReturn [{2: IClose 0, IReturn [{3: ILocal 2 1, IReturn}]}]", "ErrCode",
		"1: IClose 0, IReturn [{2: IClose 0, IReturn [{3: ILocal 5 0, IReturn}]}]", "ErrCode",
		// A code's rib is not there any more behind it, for those beside it and for what it stands in.
		"1: IReturn [{3: ILocal 1 0, IReturn}, {2: ILocal 0 1, ILocal 1 0, ILocal 2 3, IReturn}]", "OK",
		"1: IReturn [{3: ILocal 1 0, IReturn}, {2: ILocal 0 2, IReturn}]", "ErrCode",
		"1: IReturn [{3: ILocal 1 0, IReturn}, {2: ILocal 1 2, IReturn}]", "ErrCode",
		"1: ILocal 0 0, ILocal 1 3, ILocal 2 4, IReturn [{3: IReturn}]", "OK",
		"1: ILocal 0 2, IReturn [{3: IReturn}]", "ErrCode",
		"1: ILocal 3 0, IReturn [{3: IReturn}]", "ErrCode",
		// Constants are its own.
		"IReturn ['1, {IConst 0, IReturn}]", "ErrCode",
		"IReturn ['1, {IConst 0, IReturn ['2]}]", "OK",
		"IReturn ['1, {IConst 1, IReturn ['2]}]", "ErrCode",
		"IConst 0, IReturn [{IConst 0, IReturn ['2]}]", "ErrCode",
		// What is wrong deep within is wrong.
		"IReturn [{IReturn [{IReturn [{IReturn}]}]}]", "OK",
		"IReturn [{IReturn [{IReturn [{IPush}]}]}]", "ErrCode",
		"IReturn [{IReturn [{IReturn, IReturn [{IReturn}, {ICall 1}]}, {IReturn}]}]", "ErrCode",
	)
	for _, need := range []int{-1, api.MaxCore + 1} {
		bad := codeOf("IReturn")
		bad.Need = need
		checkConst(t, "a code with wrong parameters", inner(bad), "ErrCode")
	}
}

func TestRibsStayAsTheyWere(t *testing.T) {
	room := []int{1, 2, 3, 4, 5}
	ribs := room[1:3]
	if got := check.Check(codeOf("7: ILocal 2 2, IReturn [{9: ILocal 3 2, IReturn}]"), ribs); got != api.OK {
		t.Error(got)
	}
	if got := check.Check(codeOf("7: ILocal 3 0, IReturn"), ribs); got != api.ErrCode {
		t.Error(got)
	}
	for i, n := range room {
		if n != i+1 {
			t.Error(room)
		}
	}
}
