package emit_test

import (
	"math"
	"math/rand"
	"strconv"

	"athanor/api"
)

// sampler makes core forms at random.
type sampler struct{ *rand.Rand }

func newSampler(seed int64) *sampler { return &sampler{rand.New(rand.NewSource(seed))} }

// whole is a core form that may be emitted.
func (s *sampler) whole(deep int) api.Core {
	if s.Intn(6) == 0 {
		c := define(s.name(), s.core(deep, nil))
		c.Env = s.Intn(3)
		return c
	}
	return s.core(deep, nil)
}

func (s *sampler) name() string { return string(rune('a' + s.Intn(5))) }

// core is a core form that may stand where such locals are bound.
func (s *sampler) core(deep int, around []int) api.Core {
	if deep == 0 || s.Intn(12) == 0 {
		return s.leaf(around)
	}
	kid := func() api.Core { return s.core(deep-1, around) }
	switch s.Intn(12) {
	case 0, 1:
		return choice(kid(), kid(), kid())
	case 2:
		return mark(kid(), kid(), kid())
	case 3, 4:
		return s.lambda(deep, around)
	case 5:
		c := setGlobal(s.name(), kid())
		c.Env = s.Intn(3)
		return c
	case 6:
		if len(around) > 0 {
			return set(around[s.Intn(len(around))], kid())
		}
	case 7, 8:
		return seq(s.some(1+s.Intn(3), kid)...)
	}
	return app(s.some(1+s.Intn(4), kid)...)
}

func (s *sampler) some(n int, kid func() api.Core) []api.Core {
	var all []api.Core
	for range n {
		all = append(all, kid())
	}
	return all
}

func (s *sampler) leaf(around []int) api.Core {
	switch s.Intn(7) {
	case 0:
		return number(s.Intn(3))
	case 1:
		c := global(s.name())
		c.Env = s.Intn(3)
		return c
	case 2:
		return prim(s.Intn(len(api.Prims)))
	case 3:
		return unset()
	}
	if len(around) == 0 {
		return global(s.name())
	}
	return local(around[s.Intn(len(around))])
}

// lambda binds a few numbers of a few, so that inner ones bind what is bound around.
func (s *sampler) lambda(deep int, around []int) api.Core {
	all := s.Perm(6)[:s.Intn(4)]
	for i := range all {
		all[i]++
	}
	c := lambda(all, 0, api.Core{})
	if s.Intn(3) == 0 {
		c.Rest = 7 + s.Intn(2)
	}
	c.Kids[0] = s.core(deep-1, append(append([]int{}, around...), ribOf(c)...))
	return c
}

// places are all core forms within one, itself ahead.
func places(c *api.Core) []*api.Core {
	all := []*api.Core{c}
	for i := range c.Kids {
		all = append(all, places(&c.Kids[i])...)
	}
	return all
}

// torn changes something of a core form, somewhere.
func (s *sampler) torn(c api.Core) api.Core {
	all := places(&c)
	at := all[s.Intn(len(all))]
	switch s.Intn(11) {
	case 0:
		at.Op = s.Intn(16) - 1
	case 1:
		at.Kids = append(at.Kids[:len(at.Kids):len(at.Kids)], s.leaf(nil))
	case 2:
		at.Kids = at.Kids[:max(0, len(at.Kids)-1)]
	case 3:
		at.Var = s.Intn(10)
	case 4:
		at.Num = []int{-1, len(api.Prims), len(api.Prims) - 1, math.MinInt, math.MaxInt}[s.Intn(5)]
	case 5:
		at.Datum.Roots = make([]int, s.Intn(3))
	case 6:
		at.Params = append([]int{s.Intn(4)}, at.Params...)
	case 7:
		at.Rest = s.Intn(8)
	case 8:
		*at = define(s.name(), *at)
	case 9:
		*at = s.leaf([]int{s.Intn(9)})
	default: // what an Op does not have is not looked at
		at.Env, at.Name = s.Intn(5)-2, strconv.Itoa(s.Intn(3))
	}
	return c
}
