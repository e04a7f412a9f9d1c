package check

import (
	"unicode/utf8"

	"athanor/api"
	"athanor/store"
)

// constant tells whether a constant is as its kind asks, and has nothing else.
func (s *scope) constant(k *api.Const) bool {
	switch k.Kind {
	case api.KDatum:
		return hasNoName(k) && hasNoCode(k) && mayBeLaid(k.Datum)
	case api.KCell, api.KOwn:
		return hasNoDatum(k) && hasNoCode(k) && hasName(k)
	case api.KCode:
		return hasNoDatum(k) && hasNoName(k) && s.mayRun(&k.Code)
	}
	return false
}

// mayBeLaid tells whether a heap can take a datum, as one word.
func mayBeLaid(g api.Graph) bool { return len(g.Roots) == 1 && store.Need(g) != -1 }

func hasName(k *api.Const) bool { return k.Env >= 0 && k.Name != "" && utf8.ValidString(k.Name) }

func hasNoName(k *api.Const) bool { return k.Env == 0 && k.Name == "" }

func hasNoDatum(k *api.Const) bool { return len(k.Datum.Nodes) == 0 && len(k.Datum.Roots) == 0 }

func hasNoCode(k *api.Const) bool {
	c := &k.Code
	return c.Need == 0 && !c.Rest && len(c.Consts) == 0 && len(c.Ins) == 0
}
