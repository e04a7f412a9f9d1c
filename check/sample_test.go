package check_test

import (
	"math"
	"math/rand"
	"slices"

	"athanor/api"
)

// sampler makes codes at random.
type sampler struct{ *rand.Rand }

func newSampler(seed int64) *sampler { return &sampler{rand.New(rand.NewSource(seed))} }

// ribs are ribs around.
func (s *sampler) ribs() []int {
	var all []int
	for range s.Intn(3) {
		all = append(all, s.Intn(4))
	}
	return all
}

// grown is a code that checks: instruction by instruction something that may be where it stands, with jumps wherever they may lead.
func (s *sampler) grown(deep, long int, around []int) api.Code {
	c := api.Code{Need: s.Intn(3), Rest: s.Intn(3) == 0, Ins: make([]api.Ins, 1+s.Intn(long))}
	ribs := append([]int{c.Need}, around...)
	if c.Rest {
		ribs[0]++
	}
	for range s.Intn(5) {
		c.Consts = append(c.Consts, s.constant(deep, ribs))
	}
	g := grower{s, &c, ribs, make([][]onLevel, len(c.Ins)+1), 3 + long/10}
	g.came[0] = []onLevel{{0, -1}}
	for at := range c.Ins {
		if g.came[at] == nil {
			c.Ins[at] = s.anyIns() // no way leads there
			continue
		}
		g.put(at)
	}
	return c
}

func (s *sampler) constant(deep int, ribs []int) api.Const {
	names := []string{"a", "b", "λ", "car"}
	switch s.Intn(4) {
	case 0:
		return datum([]string{"1", "(a #(2) . \"x\")", "#0=(a . #0#)", "()"}[s.Intn(4)])
	case 1:
		return api.Const{Kind: api.KCell, Name: names[s.Intn(4)], Env: s.Intn(3)}
	case 2:
		return api.Const{Kind: api.KOwn, Name: names[s.Intn(4)], Env: s.Intn(3)}
	}
	if deep == 0 {
		return inner(codeOf("IUnset, IReturn"))
	}
	return inner(s.grown(deep-1, 8, ribs))
}

// any is a number that may or may not be.
func (s *sampler) any() int {
	return []int{0, 0, 1, 1, 2, 3, -1, s.Intn(20), s.Intn(200) - 100, math.MaxInt, math.MinInt}[s.Intn(11)]
}

func (s *sampler) anyIns() api.Ins { return api.Ins{Op: s.Intn(18), A: s.any(), B: s.any()} }

// grower puts instructions into a code, and knows the state in which each is come to.
type grower struct {
	*sampler
	c    *api.Code
	ribs []int
	came [][]onLevel
	rare int // of how many calls and returns one is taken
}

// free tells whether a place may be come to in a state.
func (g *grower) free(to int, levels []onLevel) bool {
	return to < len(g.c.Ins) && (g.came[to] == nil || slices.Equal(g.came[to], levels))
}

// to is a place ahead that may be come to in a state; false, if none was found.
func (g *grower) to(at int, levels []onLevel) (int, bool) {
	for range 5 {
		to := at + 1 + g.Intn(6)
		if g.free(to, levels) {
			return to, true
		}
	}
	return 0, false
}

// put puts an instruction where one is come to. A call may stand anywhere.
func (g *grower) put(at int) {
	levels := g.came[at]
	last := levels[len(levels)-1].values
	for range 12 {
		i, after, to, ok := g.propose(at, levels, last)
		if !ok || after != nil && !g.free(at+1, after) || to == at+1 && after != nil && !slices.Equal(after, levels) {
			continue
		}
		if after != nil {
			g.came[at+1] = after
		}
		if to > 0 {
			g.came[to] = levels
		}
		g.c.Ins[at] = i
		return
	}
	g.c.Ins[at] = api.Ins{Op: api.ICall, A: last}
}

// propose is an instruction that may stand in a state, the state of the next one (nil: it does not lead there), and where else it leads (0: nowhere), as the state is.
func (g *grower) propose(at int, levels []onLevel, last int) (i api.Ins, after []onLevel, to int, ok bool) {
	i = api.Ins{Op: 1 + g.Intn(16)}
	switch i.Op {
	case api.IConst, api.IGlobal, api.ISetG, api.IDefine, api.IClose:
		kind := map[int]int{api.IConst: api.KDatum, api.IDefine: api.KOwn, api.IClose: api.KCode, api.IGlobal: api.KCell, api.ISetG: api.KCell}[i.Op]
		i.A = slices.IndexFunc(g.c.Consts, func(k api.Const) bool { return k.Kind == kind })
		return i, levels, 0, i.A >= 0
	case api.ILocal, api.ISet:
		i.A = g.Intn(len(g.ribs))
		i.B = g.Intn(min(max(0, g.ribs[i.A]), 5) + 1)
		return i, levels, 0, i.B < g.ribs[i.A]
	case api.IPrim:
		i.A = g.Intn(len(api.Prims))
	case api.IPush:
		return i, changed(levels, 1), 0, true
	case api.IMark:
		return i, changed(levels, -1), 0, last > 0
	case api.IReturn:
		return i, nil, 0, last == 0 && g.Intn(g.rare) == 0
	case api.ICall:
		i.A = last
		return i, nil, 0, g.Intn(g.rare) == 0
	case api.IJump, api.IFalse, api.IFrame:
		i.A, ok = g.to(at, levels)
		if i.Op == api.IJump {
			return i, nil, i.A, ok
		}
		if i.Op == api.IFrame {
			return i, append(slices.Clone(levels), onLevel{0, i.A}), i.A, ok
		}
		return i, levels, i.A, ok
	}
	return i, levels, 0, true
}

// codes are all codes within one, itself ahead.
func codes(c *api.Code) []*api.Code {
	all := []*api.Code{c}
	for i := range c.Consts {
		if c.Consts[i].Kind == api.KCode {
			all = append(all, codes(&c.Consts[i].Code)...)
		}
	}
	return all
}

// torn changes something of a code, somewhere.
func (s *sampler) torn(whole *api.Code) {
	all := codes(whole)
	c := all[s.Intn(len(all))]
	at := 0
	if len(c.Ins) > 0 {
		at = s.Intn(len(c.Ins))
	}
	if len(c.Consts) > 0 && s.Intn(3) == 0 {
		s.tornConst(&c.Consts[s.Intn(len(c.Consts))])
		return
	}
	switch n := s.Intn(9); {
	case n == 0:
		c.Need = []int{-1, 0, 1, api.MaxCore, api.MaxCore + 1}[s.Intn(5)]
	case n == 1:
		c.Rest = !c.Rest
	case n == 2 && len(c.Consts) > 0:
		c.Consts = slices.Delete(slices.Clone(c.Consts), 0, 1)
	case len(c.Ins) == 0:
		c.Ins = []api.Ins{{Op: api.IReturn}}
	case n == 3:
		c.Ins = slices.Delete(slices.Clone(c.Ins), at, at+1)
	case n == 4:
		c.Ins = slices.Insert(slices.Clone(c.Ins), at, c.Ins[s.Intn(len(c.Ins))])
	case n == 5:
		c.Ins[at].A += s.Intn(5) - 2
	case n == 6:
		c.Ins[at].B += s.Intn(3) - 1
	case n == 7:
		c.Ins[at] = api.Ins{Op: s.Intn(19) - 1, A: s.any(), B: s.Intn(2)}
	default:
		c.Ins[at].Op = 1 + s.Intn(16)
	}
}

func (s *sampler) tornConst(k *api.Const) {
	switch s.Intn(7) {
	case 0:
		k.Kind = s.Intn(6)
	case 1:
		k.Env = s.Intn(3) - 1
	case 2:
		k.Name = []string{"", "x", "\xff", "x\xc3"}[s.Intn(4)]
	case 3:
		k.Datum.Roots = make([]int, s.Intn(3))
	case 4:
		k.Datum.Nodes = []api.Node{{Kind: 1 + s.Intn(18)}}
	case 5:
		k.Code.Need = s.Intn(3) - 1
	default:
		k.Code.Ins = make([]api.Ins, s.Intn(2))
	}
}
