package check_test

import (
	"slices"
	"strconv"
	"testing"

	"athanor/api"
	"athanor/check"
)

// Wrong inputs: every call ends, none panics, and nothing that is handed in is changed.

// wild is a code of anything.
func (s *sampler) wild(deep int) api.Code {
	c := api.Code{Need: max(s.any(), s.Intn(9)-1), Rest: s.Intn(3) == 0}
	if s.Intn(10) == 0 {
		c.Need = s.any()
	}
	for range s.Intn(3) {
		c.Consts = append(c.Consts, s.wildConst(deep))
	}
	tame := telling(6)
	for range s.Intn(6) {
		i := s.anyIns()
		if s.Intn(3) > 0 {
			i = tame[s.Intn(len(tame))]
		}
		c.Ins = append(c.Ins, i)
	}
	return c
}

func (s *sampler) wildConst(deep int) api.Const {
	k := api.Const{Kind: s.Intn(6)}
	switch s.Intn(4) {
	case 0:
		return s.constant(0, nil)
	case 1:
		k.Name, k.Env = []string{"", "x", "\xff", "\xe2\x82"}[s.Intn(4)], s.any()
	case 2:
		k.Datum = api.Graph{Nodes: []api.Node{{Kind: s.Intn(19), Num: s.any(), Kids: []int{s.any(), s.any()}[:s.Intn(3)]}, {Kind: s.any(), Text: "1"}}[:s.Intn(3)], Roots: []int{s.any(), s.any()}[:s.Intn(3)]}
	default:
		if deep > 0 {
			k.Kind, k.Code = 3, s.wild(deep-1)
		}
	}
	if s.Intn(20) == 0 {
		k.Kind = s.any()
	}
	return k
}

func (s *sampler) wildRibs() []int {
	var all []int
	for range s.Intn(4) {
		all = append(all, s.any())
	}
	return all
}

func TestWildCodes(t *testing.T) {
	s := newSampler(157)
	counts := map[bool]int{}
	for range 150000 {
		counts[agree(t, s.wild(s.Intn(3)), s.wildRibs())]++
	}
	if counts[true] < 1000 || counts[false] < 1000 {
		t.Error(counts)
	}
}

// Codes that check, with ribs that they were not made for.
func TestWildRibs(t *testing.T) {
	s := newSampler(158)
	counts := map[bool]int{}
	for range 20000 {
		counts[agree(t, s.grown(2, 12, []int{2, 2}), s.wildRibs())]++
	}
	if counts[true] < 1000 || counts[false] < 1000 {
		t.Error(counts)
	}
}

// ended shares nothing with what it copies; behind each of its lists lies something that must stay.
func ended(c api.Code) api.Code {
	c.Ins = append(slices.Clone(c.Ins), api.Ins{Op: -77})[:len(c.Ins)]
	consts := slices.Clone(c.Consts)
	for i, k := range consts {
		k.Datum.Roots = append(slices.Clone(k.Datum.Roots), -77)[:len(k.Datum.Roots)]
		nodes := slices.Clone(k.Datum.Nodes)
		for j, n := range nodes {
			nodes[j].Kids = append(slices.Clone(n.Kids), -77)[:len(n.Kids)]
		}
		k.Datum.Nodes = append(nodes, api.Node{Text: "behind"})[:len(nodes)]
		k.Code = ended(k.Code)
		consts[i] = k
	}
	c.Consts = append(consts, api.Const{Name: "behind"})[:len(consts)]
	return c
}

// trace tells all that hangs on a code, and what lies behind the ends of its lists.
func trace(c api.Code) string {
	out := strconv.Itoa(c.Need) + strconv.FormatBool(c.Rest) + " " + strconv.Itoa(len(c.Ins)) + " " + strconv.Itoa(len(c.Consts))
	for _, i := range c.Ins[:cap(c.Ins)] {
		out += " " + strconv.Itoa(i.Op) + "/" + strconv.Itoa(i.A) + "/" + strconv.Itoa(i.B)
	}
	for _, k := range c.Consts[:cap(c.Consts)] {
		out += "[" + strconv.Itoa(k.Kind) + strconv.Quote(k.Name) + strconv.Itoa(k.Env) + " " + strconv.Itoa(len(k.Datum.Nodes)) + numbers(k.Datum.Roots)
		for _, n := range k.Datum.Nodes[:cap(k.Datum.Nodes)] {
			out += "{" + strconv.Itoa(n.Kind) + " " + strconv.Itoa(n.Num) + strconv.Quote(n.Text) + numbers(n.Kids) + "}"
		}
		out += trace(k.Code) + "]"
	}
	return out
}

// numbers tells a list, and what lies behind its end.
func numbers(all []int) string {
	out := " " + strconv.Itoa(len(all))
	for _, n := range all[:cap(all)] {
		out += "," + strconv.Itoa(n)
	}
	return out
}

func TestNothingIsChanged(t *testing.T) {
	s := newSampler(159)
	for i := range 6000 {
		ribs := s.wildRibs()
		c := s.grown(3, 20, ribs)
		switch i % 3 {
		case 0:
			s.torn(&c)
		case 1:
			c = s.wild(2)
		}
		c = ended(c)
		ribs = append(slices.Clone(ribs), -77)[:len(ribs)]
		before := trace(c) + numbers(ribs)
		first := check.Check(c, ribs)
		if again := check.Check(c, ribs); again != first {
			t.Fatalf("%s: %s, then %s", before, errName(first), errName(again))
		}
		if trace(c)+numbers(ribs) != before {
			t.Fatalf("changed: %s", before)
		}
	}
}

// What holds itself is no tree: there is an end nevertheless.
func TestCodesThatHoldThemselves(t *testing.T) {
	for _, source := range []string{
		"IReturn [{IReturn}]",
		"IClose 0, IReturn [{IReturn}]",
		"2+: IClose 0, IReturn [{IReturn}, {IReturn}]",
		"IClose 1, IReturn ['1, {IReturn}, x, {IReturn}]",
		"IPush, IReturn [{IReturn}]",
	} {
		c := codeOf(source)
		for i, k := range c.Consts {
			if k.Kind != api.KCode {
				continue
			}
			ring := c
			ring.Consts = slices.Clone(c.Consts)
			ring.Consts[i].Code = ring
			checkOne(t, source, ring, nil, "ErrCode")
			checkOne(t, source, api.Code{Ins: ring.Ins, Consts: []api.Const{inner(codeOf("IReturn")), inner(ring)}}, nil, "ErrCode")
			// In two steps.
			inner1 := codeOf("1: IReturn [{IReturn}]")
			outer := ring
			outer.Consts = slices.Clone(c.Consts)
			outer.Consts[i].Code = inner1
			inner1.Consts[0].Code = outer
			checkOne(t, source, outer, nil, "ErrCode")
		}
		for i := range c.Consts { // all at once
			if c.Consts[i].Kind == api.KCode {
				c.Consts[i].Code = c
			}
		}
		checkOne(t, source, c, []int{1}, "ErrCode")
	}
	// A datum that holds itself is one.
	checkAll(t, nil, "IConst 0, IReturn ['#0=(#0# . #0#)]", "OK")
}
