package check_test

import (
	"math"
	"strconv"
	"testing"

	"athanor/api"
	"athanor/check"
)

// Promise 15.1: each row of the table of instructions, as it may be, and as it may not be.

func TestExamples(t *testing.T) {
	checkAll(t, nil,
		"IConst 0, IReturn ['5]", "OK",
		"IPush, IReturn", "ErrCode",
		"ICall 0", "OK",
		"IJump 0", "ErrCode",
	)
	checkAll(t, []int{1},
		"ILocal 0 0, IReturn", "ErrCode",
		"ILocal 1 0, IReturn", "OK",
	)
}

// Instructions that name a constant: A is the place of one of their kind, and of no other.
func TestConstantsOfInstructions(t *testing.T) {
	kinds := map[string]int{"IConst": api.KDatum, "IGlobal": api.KCell, "ISetG": api.KCell, "IDefine": api.KOwn, "IClose": api.KCode}
	places := []int{api.KCell, api.KDatum, api.KCode, api.KOwn, api.KCell, api.KDatum, api.KOwn, api.KCode}
	const behind = ", IReturn [x, '1, {IReturn}, own x, y@7, '(), own y@2, {1+: ILocal 0 1, ICall 0}]"
	for op, kind := range kinds {
		for place := -2; place < len(places)+2; place++ {
			want := "ErrCode"
			if place >= 0 && place < len(places) && places[place] == kind {
				want = "OK"
			}
			checkAll(t, nil,
				op+" "+strconv.Itoa(place)+behind, want,
				op+" "+strconv.Itoa(place)+" 1"+behind, "ErrCode",
				op+" "+strconv.Itoa(place)+" -1"+behind, "ErrCode",
				op+" "+strconv.Itoa(place)+", IReturn", "ErrCode",
				op+" "+strconv.Itoa(place)+" [x, '1, {IReturn}, own x, y@7, '(), own y@2, {IReturn}]", "ErrCode",
			)
		}
	}
	checkAll(t, nil,
		"IConst 9223372036854775807, IReturn ['1]", "ErrCode",
		"IConst -9223372036854775808, IReturn ['1]", "ErrCode",
	)
}

// Locals: ribs are there, and have so many locals, from 0 on.
func TestLocals(t *testing.T) {
	for _, op := range []string{"ILocal ", "ISet "} {
		for away, has := range []int{2, 3, 0, 1} { // its own rib, and the three around it
			for local := -2; local < 5; local++ {
				want := "ErrCode"
				if local >= 0 && local < has {
					want = "OK"
				}
				checkAll(t, []int{3, 0, 1}, "2: "+op+strconv.Itoa(away)+" "+strconv.Itoa(local)+", IReturn", want)
			}
		}
		checkAll(t, []int{3, 0, 1},
			"2: "+op+"0 2, IReturn", "ErrCode",
			"2+: "+op+"0 2, IReturn", "OK",
			"2+: "+op+"0 3, IReturn", "ErrCode",
			"0: "+op+"0 0, IReturn", "ErrCode",
			"0+: "+op+"0 0, IReturn", "OK",
			"0+: "+op+"0 1, IReturn", "ErrCode",
			"2: "+op+"1 2, IReturn", "OK",
			"2+: "+op+"1 2, IReturn", "OK",
			"2+: "+op+"1 3, IReturn", "ErrCode",
			"2: "+op+"4 0, IReturn", "ErrCode",
			"2: "+op+"-1 0, IReturn", "ErrCode",
			"2: "+op+"-1 -1, IReturn", "ErrCode",
			"2: "+op+"0 -1, IReturn", "ErrCode",
			"2: "+op+"9223372036854775807 0, IReturn", "ErrCode",
			"2: "+op+"-9223372036854775808 0, IReturn", "ErrCode",
			"2: "+op+"0 9223372036854775807, IReturn", "ErrCode",
			"2: "+op+"0 -9223372036854775808, IReturn", "ErrCode",
			"2: "+op+"0 0", "ErrCode",
		)
		checkAll(t, nil,
			"2: "+op+"0 1, IReturn", "OK",
			"2: "+op+"1 0, IReturn", "ErrCode",
		)
	}
}

// Ribs around may be any numbers: one below 0 has no locals.
func TestAnyRibs(t *testing.T) {
	checkAll(t, []int{-1, math.MinInt, math.MaxInt, 0},
		"ILocal 1 0, IReturn", "ErrCode",
		"ILocal 1 -1, IReturn", "ErrCode",
		"ILocal 2 0, IReturn", "ErrCode",
		"ILocal 2 -1, IReturn", "ErrCode",
		"ILocal 3 0, IReturn", "OK",
		"ILocal 3 9223372036854775806, IReturn", "OK",
		"ILocal 3 9223372036854775807, IReturn", "ErrCode",
		"ILocal 3 -1, IReturn", "ErrCode",
		"ILocal 4 0, IReturn", "ErrCode",
		"ILocal 5 0, IReturn", "ErrCode",
		"IReturn", "OK",
	)
	checkAll(t, []int{}, "ILocal 1 0, IReturn", "ErrCode", "IReturn", "OK")
}

func TestPrimitives(t *testing.T) {
	for n := -2; n < len(api.Prims)+3; n++ {
		want := "ErrCode"
		if n >= 0 && n < len(api.Prims) {
			want = "OK"
		}
		checkAll(t, nil,
			"IPrim "+strconv.Itoa(n)+", IReturn", want,
			"IPrim "+strconv.Itoa(n)+" 1, IReturn", "ErrCode",
			"IPrim "+strconv.Itoa(n), "ErrCode",
		)
	}
	checkAll(t, nil,
		"IUnset, IReturn", "OK",
		"IUnset 1, IReturn", "ErrCode",
		"IUnset -1, IReturn", "ErrCode",
		"IUnset 0 1, IReturn", "ErrCode",
		"IUnset", "ErrCode",
		"IPrim 9223372036854775807, IReturn", "ErrCode",
		"IPrim -9223372036854775808, IReturn", "ErrCode",
	)
}

// Values: a push puts one more, a mark takes one, a call takes all, a return finds none.
func TestValues(t *testing.T) {
	checkAll(t, nil,
		"IReturn", "OK",
		"IReturn 1", "ErrCode",
		"IReturn 0 1", "ErrCode",
		"IReturn -1", "ErrCode",
		"IReturn 0 -1", "ErrCode",
		"IPush, IReturn 1", "ErrCode",
		"IPush", "ErrCode",
		"IPush 1, ICall 1", "ErrCode",
		"IPush 0 1, ICall 1", "ErrCode",
		"IPush, ICall 1", "OK",
		"IPush, ICall", "ErrCode",
		"IPush, ICall 2", "ErrCode",
		"IPush, ICall 1 1", "ErrCode",
		"IPush, ICall 1 -1", "ErrCode",
		"ICall 1", "ErrCode",
		"ICall -1", "ErrCode",
		"ICall 0 1", "ErrCode",
		"IPush, IPush, IPush, ICall 3", "OK",
		"IPush, IPush, IPush, ICall 2", "ErrCode",
		"IPush, IPush, IPush, ICall 4", "ErrCode",
		"IMark, IReturn", "ErrCode",
		"IMark, ICall -1", "ErrCode",
		"IMark", "ErrCode",
		"IPush, IMark, IReturn", "OK",
		"IPush, IMark, ICall", "OK",
		"IPush, IMark, ICall 1", "ErrCode",
		"IPush, IMark 1, IReturn", "ErrCode",
		"IPush, IMark 0 1, IReturn", "ErrCode",
		"IPush, IMark, IMark, IReturn", "ErrCode",
		"IPush, IPush, IMark, IReturn", "ErrCode",
		"IPush, IPush, IMark, ICall 1", "OK",
		"IPush, IPush, IMark, IMark, IReturn", "OK",
		"IPush, IPush, IMark, IMark, IMark, IReturn", "ErrCode",
		"IPush, IMark", "ErrCode",
		"IPush, IMark, IPush, IMark, IPush, ICall 1", "OK",
	)
}

// Jumps lead on, to an instruction that is there: not to themselves, not back, not behind all.
func TestWhereJumpsLead(t *testing.T) {
	for _, op := range []string{"IFrame", "IJump", "IFalse"} {
		for to := -2; to < 9; to++ {
			want := "ErrCode"
			if to > 2 && to < 6 && (op != "IFrame" || to > 3) { // a frame that goes on at the next one leads there twice
				want = "OK"
			}
			checkAll(t, nil,
				"IUnset, IUnset, "+op+" "+strconv.Itoa(to)+", IReturn, IReturn, IReturn", want,
				"IUnset, IUnset, "+op+" "+strconv.Itoa(to)+" 1, IReturn, IReturn, IReturn", "ErrCode",
				"IUnset, IUnset, "+op+" "+strconv.Itoa(to)+" -1, IReturn, IReturn, IReturn", "ErrCode",
				"IUnset, IUnset, "+op+" "+strconv.Itoa(to), "ErrCode",
			)
		}
		checkAll(t, nil,
			op+" 9223372036854775807, IReturn", "ErrCode",
			op+" -9223372036854775808, IReturn", "ErrCode",
			op+" 0, IReturn", "ErrCode",
		)
	}
	checkAll(t, nil,
		"IJump 1, IReturn", "OK",
		"IFalse 1, IReturn", "OK",
		"IFrame 1, IReturn", "ErrCode", // one and two levels at 1
		"IFrame 2, IReturn, IReturn", "OK",
		"IFrame 1", "ErrCode",
	)
}

// A frame is a level more without values; what it goes on at has the values that were there.
func TestFrames(t *testing.T) {
	checkAll(t, nil,
		"IFrame 2, ICall, IReturn", "OK",
		"IFrame 2, ICall 1, IReturn", "ErrCode",
		"IFrame 3, IPush, ICall 1, IReturn", "OK",
		"IFrame 3, IPush, IReturn, IReturn", "ErrCode",
		"IFrame 3, IPush, ICall 1, ICall 1", "ErrCode",
		"IFrame 3, IMark, IReturn, IReturn", "ErrCode",
		"IPush, IFrame 3, IReturn, ICall 1", "OK",
		"IPush, IFrame 3, IReturn, ICall 2", "ErrCode",
		"IPush, IFrame 3, IReturn, ICall", "ErrCode",
		"IPush, IFrame 3, ICall 1, ICall 1", "ErrCode",
		"IPush, IFrame 3, ICall, IMark, IReturn", "OK",
		"IPush, IFrame 4, IMark, IReturn, ICall 1", "ErrCode", // the value lies on the level around
		"IPush, IFrame 4, IPush, ICall 1, IPush, ICall 2", "OK",
		"IPush, IFrame 8, IPush, IPush, IFrame 6, IReturn, IMark, ICall 1, ICall 1", "OK",
		"IPush, IFrame 8, IPush, IPush, IFrame 6, IReturn, IMark, ICall 2, ICall 1", "ErrCode",
		"IPush, IFrame 8, IPush, IPush, IFrame 6, IReturn, IMark, ICall 1, ICall 2", "ErrCode",
		"IFrame 3, IFrame 3, IReturn, IReturn", "ErrCode", // one and two levels at 3
		"IFrame 4, IFrame 3, IReturn, IReturn, IReturn", "OK",
		"IFrame 3, IFrame 4, IReturn, IReturn, IReturn", "OK", // the inner level goes on behind where the outer one does
		"IFrame 2, IReturn", "ErrCode",
		"IFrame 2, IUnset, IReturn", "ErrCode", // the inner level leads to where the outer one goes on
		"IFrame 3, IReturn, IReturn, IUnset", "ErrCode",
	)
}

// A jump within a level may lead past where that level goes on.
func TestOutOfAFrame(t *testing.T) {
	checkAll(t, nil,
		"IFrame 2, IJump 3, IReturn, IReturn", "OK",
		"IFrame 2, IJump 3, IUnset, IReturn", "ErrCode",
		"IFrame 2, IFalse 3, IReturn, IReturn", "ErrCode", // false: two levels at 2
		"IFrame 3, IFalse 4, IReturn, IReturn, IReturn", "OK",
		"IFrame 2, IJump 4, IPush, ICall 1, IPush, ICall 1", "OK",
		"IFrame 2, IJump 4, IPush, ICall 1, IPush, IReturn", "ErrCode",
	)
}

// Both ways of a choice are followed.
func TestChoices(t *testing.T) {
	checkAll(t, nil,
		"IUnset, IFalse 3, IReturn, IReturn", "OK",
		"IUnset, IFalse 3, ICall 1, IReturn", "ErrCode",
		"IUnset, IFalse 3, IReturn, ICall 1", "ErrCode",
		"IUnset, IFalse 3, IReturn, IUnset", "ErrCode",
		"IPush, IFalse 3, ICall 1, ICall 1", "OK",
		"IPush, IFalse 3, ICall, ICall 1", "ErrCode",
		"IPush, IFalse 3, ICall 1, ICall", "ErrCode",
		"IFalse 3, IUnset, IJump 4, IUnset, IReturn", "OK",
		"IFalse 3, IUnset, IJump 4, IPush, ICall 1", "ErrCode",
		"IFalse 3, IPush, IJump 4, IUnset, ICall 1", "ErrCode",
		"IFalse 3, IPush, IJump 4, IPush, ICall 1", "OK",
		"IFalse 3, IPush, IJump 4, IPush, IReturn", "ErrCode",
		"IJump 2, IPrim -1, IReturn", "OK",
		"IJump 1, IPrim -1, IReturn", "ErrCode",
	)
}

// Where two ways meet, they have as many levels with as many values, which go on at the same places.
func TestWhereWaysMeet(t *testing.T) {
	const deep = ", IPush, ICall 1, IReturn, IReturn"
	checkAll(t, nil,
		// 4 is come to twice, with a frame that goes on at 6 or at 7.
		"IFalse 3, IFrame 6, IJump 4, IFrame 6"+deep, "OK",
		"IFalse 3, IFrame 7, IJump 4, IFrame 7"+deep, "OK",
		"IFalse 3, IFrame 6, IJump 4, IFrame 7"+deep, "ErrCode",
		"IFalse 3, IFrame 7, IJump 4, IFrame 6"+deep, "ErrCode",
		"IFalse 3, IFrame 7, IJump 4, IUnset"+deep, "ErrCode",
		"IFalse 3, IUnset, IJump 4, IFrame 7"+deep, "ErrCode",
		"IFalse 3, IUnset, IJump 4, IUnset"+deep, "OK",
		// The level below has one value, or none.
		"IFalse 4, IPush, IFrame 9, IJump 6, IPush, IFrame 9, IPush, ICall 1, IReturn, ICall 1", "OK",
		"IFalse 4, IPush, IFrame 9, IJump 6, IUnset, IFrame 9, IPush, ICall 1, IReturn, ICall 1", "ErrCode",
		"IFalse 4, IUnset, IFrame 9, IJump 6, IPush, IFrame 9, IPush, ICall 1, IReturn, IReturn", "ErrCode",
		"IFalse 4, IUnset, IFrame 9, IJump 6, IUnset, IFrame 9, IPush, ICall 1, IReturn, IReturn", "OK",
		// The level below goes on elsewhere, and so on.
		"IFalse 4, IFrame 9, IFrame 8, IJump 6, IFrame 9, IFrame 8, IPush, ICall 1, IReturn, IReturn", "OK",
		"IFalse 4, IFrame 9, IFrame 8, IJump 6, IFrame 8, IFrame 9, IPush, ICall 1, IReturn, IReturn", "ErrCode",
		"IFalse 4, IFrame 8, IFrame 9, IJump 6, IFrame 8, IFrame 9, IPush, ICall 1, IReturn, IReturn", "OK",
		"IFalse 4, IFrame 10, IFrame 9, IJump 6, IFrame 8, IFrame 9, IPush, ICall 1, IReturn, IReturn, IReturn", "ErrCode",
		"IFalse 4, IFrame 9, IFrame 10, IJump 6, IFrame 9, IFrame 8, IPush, ICall 1, IReturn, IReturn, IReturn", "ErrCode",
		// At the last instruction, and at one that ends.
		"IFalse 2, IUnset, IReturn", "OK",
		"IFalse 2, IPush, IReturn", "ErrCode",
		"IFalse 2, IPush, ICall 1", "ErrCode",
		"IFalse 2, IPush, ICall", "ErrCode",
		"IPush, IFalse 3, IMark, IReturn", "ErrCode",
		"IPush, IFalse 3, IMark, ICall 1", "ErrCode",
		// Values that were put and taken again.
		"IFalse 3, IPush, IMark, IReturn", "OK",
		"IFalse 5, IPush, IPush, IMark, IJump 6, IPush, ICall 1", "OK",
		// More than two ways.
		"IFalse 2, IFalse 3, IFalse 4, IFalse 4, IReturn", "OK",
		"IFalse 5, IFalse 5, IFalse 5, IFalse 5, IPush, IReturn", "ErrCode",
		"IFalse 5, IFalse 5, IFalse 5, IFalse 5, IJump 6, IReturn, IReturn", "OK",
	)
}

// The way that ends behind the last instruction may be any.
func TestBehindTheLast(t *testing.T) {
	for _, last := range []string{"IConst 0", "ILocal 0 0", "IGlobal 1", "ISet 0 0", "ISetG 1", "IDefine 2", "IClose 3", "IPush", "IPrim 0", "IUnset"} {
		const consts = "['1, x, own x, {IReturn}]"
		checkAll(t, nil,
			"1: "+last+consts, "ErrCode",
			"1: "+last+", "+last+consts, "ErrCode",
			"1: IFalse 2, IReturn, "+last+consts, "ErrCode",
			"1: IFalse 2, "+last+", "+last+consts, "ErrCode",
			"1: IFrame 2, ICall, "+last+consts, "ErrCode",
			"1: IFrame 2, "+last+", IReturn"+consts, "ErrCode",
			"1: IJump 1, "+last+consts, "ErrCode",
			"1: IReturn, "+last+consts, "OK", // no way leads there
			"1: ICall, "+last+consts, "OK",
			"1: IJump 2, "+last+", IReturn"+consts, "OK",
		)
	}
	checkAll(t, nil, "IPush, IMark", "ErrCode", "IFrame 1, IMark", "ErrCode", "", "ErrCode", "['1]", "ErrCode")
}

// Operations that there are none of, wherever a way leads to them.
func TestOtherOperations(t *testing.T) {
	for _, op := range []int{0, -1, 17, 18, 100, 255, 256, 257, 273, 1 << 32, math.MaxInt, math.MinInt, -16} {
		name := strconv.Itoa(op)
		checkAll(t, nil,
			name+", IReturn", "ErrCode",
			name, "ErrCode",
			"IUnset, "+name+", IReturn", "ErrCode",
			"IFalse 2, IReturn, "+name+", IReturn", "ErrCode",
			"IFrame 2, ICall, "+name+", IReturn", "ErrCode",
			"IFrame 3, "+name+", ICall, IReturn", "ErrCode",
			"IReturn, "+name, "OK",
		)
	}
	for op := 1; op <= 16; op++ { // all that there are
		c := codeOf("1: IUnset, IPush, IUnset, IReturn ['1]")
		c.Ins[2].Op = op
		c.Ins[3] = api.Ins{Op: api.ICall, A: 1}
		want := "OK"
		switch op {
		case api.IFrame, api.IJump, api.IFalse, api.ICall:
			c.Ins[2].A = 3
			if op == api.ICall {
				c.Ins[2].A = 1
			}
			if op == api.IFrame {
				want = "ErrCode"
			}
		case api.IGlobal, api.ISetG, api.IDefine, api.IClose:
			c.Consts[0] = map[int]api.Const{api.IDefine: {Kind: api.KOwn, Name: "x"}, api.IClose: inner(codeOf("IReturn"))}[op]
			if c.Consts[0].Kind == 0 {
				c.Consts[0] = api.Const{Kind: api.KCell, Name: "x"}
			}
		case api.IPush:
			c.Ins[3].A = 2
		case api.IMark:
			c.Ins[3].A = 0
		case api.IReturn:
			want = "ErrCode"
		}
		checkOne(t, opNames[op], c, nil, want)
	}
}

// Instructions that no way leads to may be anything.
func TestWhereNoWayLeads(t *testing.T) {
	for _, any := range []string{"IConst 5", "IConst -1", "ILocal 7 7", "ISet -1 -1", "IGlobal 0", "IClose 0", "IDefine 1", "IPrim 9999", "IPrim -1", "IUnset 1 1", "IPush 7", "IMark", "IReturn 5 5", "ICall 9", "ICall -9", "IFrame 0", "IJump 0", "IJump 99", "IFalse -3", "IFalse 1", "0", "77 7 7"} {
		checkAll(t, nil,
			"IReturn, "+any, "OK",
			"IReturn, "+any+", IReturn", "OK",
			"IJump 2, "+any+", IReturn", "OK",
			"IFalse 3, IReturn, "+any+", IReturn, "+any, "OK",
			"IFrame 3, ICall, "+any+", IReturn, "+any, "OK",
			"IJump 3, "+any+", IPush, IReturn", "OK", // what follows it, too
			"IPush, IJump 4, IFrame 4, "+any+", ICall 1", "OK",
		)
	}
	checkAll(t, nil,
		"IJump 2, IJump 3, IReturn, IPush", "OK",
		"IJump 2, IFalse 3, IJump 3, IReturn", "OK",
		"IJump 3, IPush, IJump 3, IReturn", "OK", // it would come there with a value
	)
}

func TestNothingHandedIn(t *testing.T) {
	if got := check.Check(api.Code{}, nil); got != api.ErrCode {
		t.Error(got)
	}
}
