package emit_test

import (
	"math"
	"slices"
	"strconv"
	"testing"

	"athanor/api"
	"athanor/emit"
)

// Wrong inputs: every call ends, none panics, and nothing that is handed in is changed.

// wild is a core form of anything.
func (s *sampler) wild(deep int) api.Core {
	any := func() int {
		return []int{0, 1, 2, 3, -1, s.Intn(20), s.Intn(200) - 100, math.MaxInt, math.MinInt}[s.Intn(9)]
	}
	c := api.Core{Op: 1 + s.Intn(13)}
	if s.Intn(20) == 0 {
		c.Op = any()
	}
	for range s.Intn(3) {
		c.Params = append(c.Params, any())
	}
	if s.Intn(2) == 0 {
		c.Env, c.Var, c.Num, c.Rest, c.Name = any(), any(), any(), any(), []string{"", "x", "\xff"}[s.Intn(3)]
	}
	if s.Intn(3) > 0 {
		c.Datum = api.Graph{Nodes: []api.Node{{Kind: any(), Num: any(), Kids: []int{any()}}}[:s.Intn(2)], Roots: []int{any(), any()}[:s.Intn(3)]}
	}
	kids := map[int]int{api.CSet: 1, api.CSetG: 1, api.CDefine: 1, api.CLambda: 1, api.CIf: 3, api.CMark: 3, api.CSeq: 2, api.CApp: 2}[c.Op]
	if s.Intn(12) == 0 {
		kids = s.Intn(5)
	}
	if deep > 0 {
		for range kids {
			c.Kids = append(c.Kids, s.wild(deep-1))
		}
	}
	return c
}

func TestWildForms(t *testing.T) {
	s := newSampler(145)
	counts := map[string]int{}
	for range 60000 {
		c := s.wild(s.Intn(5))
		got := answer(c)
		if wanted := told(modelEmit(c)); got != wanted {
			t.Fatalf("%#v: %s, want %s", c, got, wanted)
		}
		counts[map[bool]string{true: "no", false: "yes"}[got == "ErrSyntax"]]++
	}
	if counts["no"] < 10000 || counts["yes"] < 1000 {
		t.Error(counts)
	}
}

// ended shares nothing with what it copies; behind each of its lists lies something that must stay.
func ended(c api.Core) api.Core {
	c.Params = append(slices.Clone(c.Params), -77)[:len(c.Params)]
	c.Datum.Roots = append(slices.Clone(c.Datum.Roots), -77)[:len(c.Datum.Roots)]
	nodes := slices.Clone(c.Datum.Nodes)
	for i, n := range nodes {
		nodes[i].Kids = append(slices.Clone(n.Kids), -77)[:len(n.Kids)]
	}
	c.Datum.Nodes = append(nodes, api.Node{Text: "behind"})[:len(nodes)]
	kids := slices.Clone(c.Kids)
	for i, k := range kids {
		kids[i] = ended(k)
	}
	c.Kids = append(kids, api.Core{Name: "behind"})[:len(kids)]
	return c
}

// trace tells all that hangs on a core form, and what lies behind the ends of its lists.
func trace(c api.Core) string {
	out := strconv.Quote(c.Name)
	for _, n := range append([]int{c.Op, c.Env, c.Var, c.Num, c.Rest, len(c.Params), len(c.Datum.Roots), len(c.Datum.Nodes), len(c.Kids)}, append(slices.Clone(c.Params[:cap(c.Params)]), c.Datum.Roots[:cap(c.Datum.Roots)]...)...) {
		out += " " + strconv.Itoa(n)
	}
	for _, n := range c.Datum.Nodes[:cap(c.Datum.Nodes)] {
		out += "{" + strconv.Itoa(n.Kind) + " " + strconv.Itoa(n.Num) + n.Text
		for _, k := range n.Kids[:cap(n.Kids)] {
			out += " " + strconv.Itoa(k)
		}
		out += "}"
	}
	for _, k := range c.Kids[:cap(c.Kids)] {
		out += "(" + trace(k) + ")"
	}
	return out
}

func TestNothingIsChanged(t *testing.T) {
	s := newSampler(146)
	for i := range 4000 {
		c := s.whole(5)
		if i%2 == 0 {
			c = s.wild(4)
		}
		c = ended(c)
		before := trace(c)
		first, err := emit.Emit(c)
		told1 := told(first, err)
		again, err := emit.Emit(c)
		if told2 := told(again, err); told2 != told1 {
			t.Fatalf("%s, then %s", told1, told2)
		}
		if trace(c) != before {
			t.Fatalf("changed: %s", before)
		}
		// Who writes to one code changes no other one, nor the form.
		each(first, func(c api.Code) {
			for i := range c.Ins {
				c.Ins[i] = api.Ins{Op: -1}
			}
			for i := range c.Consts {
				c.Consts[i].Name = "other"
			}
		})
		if told3 := told(again, err); told3 != told1 || trace(c) != before {
			t.Fatalf("%s, then %s", told1, told3)
		}
	}
}

// Trees may be 10000 deep.
func TestDeepForms(t *testing.T) {
	const deep = 9999
	for what, c := range map[string]struct {
		wrap func(c api.Core) api.Core
		ins  int // of the longest code
	}{
		"seq":      {func(c api.Core) api.Core { return seq(c) }, 2},
		"set":      {func(c api.Core) api.Core { return setGlobal("x", c) }, deep + 2},
		"lambda":   {func(c api.Core) api.Core { return lambda([]int{1, 2}, 3, c) }, 2},
		"app":      {func(c api.Core) api.Core { return app(c) }, 2 * deep},
		"operand":  {func(c api.Core) api.Core { return app(c, unset()) }, 4 * deep},
		"first":    {func(c api.Core) api.Core { return choice(c, unset(), unset()) }, 4*deep + 2},
		"second":   {func(c api.Core) api.Core { return choice(unset(), c, unset()) }, 4*deep + 2},
		"third":    {func(c api.Core) api.Core { return choice(unset(), unset(), c) }, 4*deep + 2},
		"key":      {func(c api.Core) api.Core { return mark(c, unset(), unset()) }, 6 * deep},
		"marked":   {func(c api.Core) api.Core { return mark(unset(), c, unset()) }, 6 * deep},
		"body":     {func(c api.Core) api.Core { return mark(unset(), unset(), c) }, 4*deep + 2},
		"operator": {func(c api.Core) api.Core { return app(unset(), c) }, 4 * deep},
	} {
		whole, bad := unset(), local(1)
		if what == "lambda" {
			bad = local(4)
		}
		for range deep {
			whole, bad = c.wrap(whole), c.wrap(bad)
		}
		code, err := emit.Emit(whole)
		longest, codes := 0, 0
		each(code, func(c api.Code) { longest, codes = max(longest, len(c.Ins)), codes+1 })
		if err != api.OK || longest != c.ins || what == "lambda" && codes != deep+1 {
			t.Errorf("%s: error %d, %d instructions, %d codes", what, err, longest, codes)
		}
		if got := answer(bad); got != "ErrSyntax" {
			t.Errorf("%s: %.100s", what, got)
		}
	}
}

// A local may be as many ribs away as a tree is deep.
func TestFarLocals(t *testing.T) {
	c := app(local(0), local(5000), set(9000, local(9989)))
	for n := 9989; n >= 0; n-- {
		c = lambda([]int{-1, n}, 10000, c)
	}
	code, err := emit.Emit(c)
	if err != api.OK {
		t.Fatal(err)
	}
	for len(code.Consts) > 0 {
		code = code.Consts[0].Code
	}
	if got := show(code); got != "2+: ILocal 9989 1, IPush, ILocal 4989 1, IPush, ILocal 0 1, ISet 989 1, ICall 2" {
		t.Error(got)
	}
}

// A lambda may bind very many.
func TestWideLambdas(t *testing.T) {
	params := make([]int, 200000)
	for i := range params {
		params[i] = 7 * i
	}
	if got, want := answer(lambda(params, -1, app(local(7*123456), local(-1)))), "IClose 0, IReturn [{200000+: ILocal 0 123456, IPush, ILocal 0 200000, ICall 1}]"; got != want {
		t.Error(got)
	}
	params[199999] = 7 * 55555
	if got := answer(lambda(params, -1, unset())); got != "ErrSyntax" {
		t.Errorf("%.100s", got)
	}
}

// What holds itself is no tree: there is an end nevertheless.
func TestFormsThatHoldThemselves(t *testing.T) {
	for _, c := range []api.Core{seq(unset()), app(unset(), unset()), choice(unset(), unset(), unset()), lambda([]int{1}, 0, unset()), mark(unset(), unset(), unset()), setGlobal("x", unset())} {
		for i := range c.Kids {
			ring := c
			ring.Kids = slices.Clone(c.Kids)
			ring.Kids[i] = ring
			if got := answer(ring); got != "ErrSyntax" {
				t.Errorf("%d: %.100s", c.Op, got)
			}
			if got := answer(define("x", ring)); got != "ErrSyntax" {
				t.Errorf("%d: %.100s", c.Op, got)
			}
		}
	}
}
