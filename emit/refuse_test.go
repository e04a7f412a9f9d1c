package emit_test

import (
	"math"
	"slices"
	"strconv"
	"testing"

	"athanor/api"
)

// Promise 14.1: what may not be emitted is ErrSyntax.

// around are core forms in which one stands, in each place that a core form may stand in.
func around(c api.Core) map[string]api.Core {
	g := global("g")
	return map[string]api.Core{
		"alone": c, "set": lambda([]int{99}, 0, set(99, c)), "set a global": setGlobal("x", c), "defined": define("x", c), "first": choice(c, g, g), "second": choice(g, c, g), "third": choice(g, g, c), "a lambda": lambda([]int{98}, 97, c),
		"one": seq(c), "ahead": seq(c, g), "behind": seq(g, c), "between": seq(g, c, g), "called": app(c), "an operand": app(c, g), "another": app(g, c, g), "an operator": app(g, c), "a key": mark(c, g, g), "marked": mark(g, c, g), "a body": mark(g, g, c),
		"deep": app(lambda(nil, 0, choice(g, seq(g, mark(g, lambda([]int{97}, 98, app(g, app(c, g))), g)), g))),
	}
}

// refuses holds that a core form is ErrSyntax, wherever it stands.
func refuses(t *testing.T, what string, c api.Core) {
	t.Helper()
	for where, whole := range around(c) {
		if got := answer(whole); got != "ErrSyntax" {
			t.Errorf("%s, %s: %s", what, where, got)
		}
	}
}

// allows holds that a core form may be emitted, wherever it stands.
func allows(t *testing.T, what string, c api.Core) {
	t.Helper()
	for where, whole := range around(c) {
		if got, wanted := answer(whole), told(modelEmit(whole)); got != wanted || got == "ErrSyntax" {
			t.Errorf("%s, %s: %s, want %s", what, where, got, wanted)
		}
	}
}

func TestKids(t *testing.T) {
	for op := -2; op <= 16; op++ {
		for n := range 6 {
			c := api.Core{Op: op, Name: "x", Kids: slices.Repeat([]api.Core{global("a")}, n)}
			fits := false
			switch op {
			case api.CConst, api.CLocal, api.CGlobal, api.CUnset, api.CPrim:
				fits = n == 0
			case api.CSet, api.CSetG, api.CDefine, api.CLambda:
				fits = n == 1
			case api.CIf, api.CMark:
				fits = n == 3
			case api.CSeq, api.CApp:
				fits = n > 0
			}
			if op == api.CConst {
				c.Datum.Roots = []int{0}
			}
			if op == api.CLocal || op == api.CSet {
				c = lambda([]int{0}, 0, c)
			}
			switch {
			case op == api.CDefine && fits:
				if got := answer(c); got != "IGlobal 0, IDefine 1, IReturn [a, own x]" {
					t.Error(got)
				}
			case fits:
				allows(t, "Op "+strconv.Itoa(op), c)
			default:
				refuses(t, "Op "+strconv.Itoa(op), c)
			}
		}
	}
	refuses(t, "nothing", api.Core{})
	refuses(t, "a great Op", api.Core{Op: math.MaxInt})
	refuses(t, "a small Op", api.Core{Op: math.MinInt})
	refuses(t, "an Op that says another one in fewer bits", api.Core{Op: 256 + api.CGlobal})
}

func TestLocalsThatAreNotBound(t *testing.T) {
	for _, n := range []int{0, 1, 2, -1, 5, math.MaxInt, math.MinInt} {
		refuses(t, "a local", local(n))
		refuses(t, "a local that is set", set(n, global("a")))
		if n != 1 {
			refuses(t, "another local", lambda([]int{1}, 0, local(n)))
			refuses(t, "another local that is set", lambda(nil, 1, set(n, global("a"))))
		}
	}
	refuses(t, "ahead of where it is bound", seq(local(1), lambda([]int{1}, 0, local(1))))
	refuses(t, "behind where it is bound", seq(lambda([]int{1}, 0, local(1)), local(1)))
	refuses(t, "behind where it is bound twice", seq(lambda([]int{1}, 0, lambda([]int{1}, 0, local(1))), local(1)))
	refuses(t, "beside where it is bound", lambda([]int{1}, 0, app(lambda([]int{2}, 0, local(2)), lambda(nil, 3, local(2)))))
	refuses(t, "what it is set to", lambda([]int{1}, 0, set(1, local(2))))
	refuses(t, "no Rest", lambda([]int{1}, 0, local(0)))
	allows(t, "around", lambda([]int{1}, 2, lambda([]int{3}, 0, lambda(nil, 4, app(local(1), local(2), local(3), set(4, set(1, local(4))))))))
	allows(t, "twice, one behind the other", seq(lambda([]int{1}, 0, local(1)), lambda(nil, 1, local(1))))
	allows(t, "behind where an inner lambda binds it", lambda([]int{1}, 0, seq(lambda([]int{1}, 0, local(1)), local(1))))
}

func TestNumbersThatAreBoundTwice(t *testing.T) {
	g := global("g")
	for _, params := range [][]int{{1, 1}, {1, 2, 1}, {2, 1, 1}, {1, 2, 3, 4, 5, 6, 7, 3}, {0, 0}, {-1, -1}, {math.MaxInt, math.MaxInt}} {
		refuses(t, "a lambda", lambda(params, 0, g))
		refuses(t, "a lambda with a Rest", lambda(params, 9, g))
		refuses(t, "within another one", lambda([]int{1, 0}, 0, lambda(params, 0, g)))
	}
	for _, params := range [][]int{{9}, {1, 9}, {9, 1}, {1, 9, 2}} {
		refuses(t, "a Rest", lambda(params, 9, g))
		refuses(t, "a Rest below 0", lambda(append([]int{-9}, params...), -9, g))
		refuses(t, "a Rest that another lambda has", lambda([]int{9}, 0, lambda(params, 9, g)))
	}
	allows(t, "a Param 0, which is no Rest", lambda([]int{0}, 0, local(0)))
	allows(t, "each once", lambda([]int{1, 2}, 3, lambda([]int{3, 2}, 1, lambda([]int{1}, 2, app(local(1), local(2), local(3))))))
}

func TestConstantsWithoutARoot(t *testing.T) {
	one := api.Node{Kind: api.GInt, Text: "1"}
	constant := func(g api.Graph) api.Core { return api.Core{Op: api.CConst, Datum: g} }
	refuses(t, "none", constant(api.Graph{}))
	refuses(t, "a node", constant(api.Graph{Nodes: []api.Node{one}}))
	refuses(t, "an empty list", constant(api.Graph{Nodes: []api.Node{one}, Roots: []int{}}))
	refuses(t, "two", constant(api.Graph{Nodes: []api.Node{one, one}, Roots: []int{0, 1}}))
	refuses(t, "one twice", constant(api.Graph{Nodes: []api.Node{one}, Roots: []int{0, 0}}))
	refuses(t, "three", constant(api.Graph{Nodes: []api.Node{one}, Roots: []int{0, 0, 0}}))
	// A datum is not looked at otherwise.
	allows(t, "one", constant(api.Graph{Nodes: []api.Node{one}, Roots: []int{0}}))
	allows(t, "one of two", constant(api.Graph{Nodes: []api.Node{one, one}, Roots: []int{1}}))
	allows(t, "one that is not there", constant(api.Graph{Roots: []int{7}}))
	allows(t, "one below 0", constant(api.Graph{Nodes: []api.Node{one}, Roots: []int{-1}}))
	allows(t, "no datum", constant(api.Graph{Nodes: []api.Node{{Kind: api.GPort}}, Roots: []int{0}}))
	allows(t, "no graph", constant(api.Graph{Nodes: []api.Node{{Kind: 99, Kids: []int{5, -5}}}, Roots: []int{0}}))
}

func TestPrimitivesThatAreNone(t *testing.T) {
	for _, n := range []int{-1, -2, len(api.Prims), len(api.Prims) + 1, 255, 256, 1 << 32, math.MaxInt, math.MinInt} {
		refuses(t, "a primitive", prim(n))
	}
	for _, n := range []int{0, 1, len(api.Prims) - 1} {
		allows(t, "a primitive", prim(n))
	}
}

func TestDefinitionsWithin(t *testing.T) {
	d := define("d", global("a"))
	for where, whole := range around(d) {
		if got := answer(whole); (got == "ErrSyntax") != (where != "alone") {
			t.Errorf("%s: %s", where, got)
		}
	}
	refuses(t, "of nothing", api.Core{Op: api.CDefine, Name: "d"})
	refuses(t, "of two", api.Core{Op: api.CDefine, Name: "d", Kids: []api.Core{global("a"), global("a")}})
	refuses(t, "of a local that is not bound", define("d", local(1)))
	refuses(t, "of a definition", define("d", d))
}

// What an Op does not have is not looked at.
func TestWhatIsNotLookedAt(t *testing.T) {
	for _, c := range []api.Core{
		number(5), global("x"), prim(3), unset(), setGlobal("x", global("y")), define("x", global("y")), choice(global("a"), global("b"), global("c")), seq(global("a"), app(global("f"))), mark(global("k"), global("v"), global("b")), lambda([]int{1}, 2, set(1, local(2))),
	} {
		more := c
		if c.Op != api.CPrim {
			more.Num = -5
		}
		if c.Op != api.CLambda {
			more.Params, more.Rest = []int{1, 1}, 1
		}
		if c.Op != api.CConst {
			more.Datum = api.Graph{Roots: []int{1, 2}}
		}
		if c.Op != api.CGlobal && c.Op != api.CSetG && c.Op != api.CDefine {
			more.Env, more.Name = -7, "more"
		}
		more.Var = -9
		if got, wanted := answer(more), answer(c); got != wanted || got == "ErrSyntax" {
			t.Errorf("%d: %s, want %s", c.Op, got, wanted)
		}
	}
	// Names and environments may be any here.
	for _, name := range []string{"", "\xff", "a b"} {
		c := global(name)
		c.Env = math.MinInt
		allows(t, "a global", c)
		c = setGlobal(name, c)
		c.Env = math.MaxInt
		allows(t, "a global that is set", c)
	}
}
