package expand

import (
	"athanor/api"
	"athanor/rules"
)

// weigh adds to the weight, and stops where it is too much: so nothing goes on for long that comes to more.
func (x *expander) weigh(n int) {
	x.weight += n
	must(x.weight <= api.MaxCore)
}

// local is the number of a new local.
func (x *expander) local() int {
	x.weigh(1)
	x.locals++
	return x.locals
}

// open begins a core form. It is weighed ahead of what stands in it, so that core forms within one another go no deeper than they may weigh.
func (x *expander) open(op int) api.Core {
	x.weigh(1)
	return api.Core{Op: op}
}

// filled is a core form that was begun, with what stands in it. (Go evaluates what is handed in from the left: it was begun ahead of that.)
func filled(begun api.Core, kids ...api.Core) api.Core {
	begun.Kids = append(begun.Kids, kids...)
	return begun
}

// procedure begins a lambda of some locals.
func (x *expander) procedure(params ...int) api.Core {
	out := x.open(api.CLambda)
	out.Params = params
	return out
}

// store begins the setting of a local.
func (x *expander) store(local int) api.Core {
	out := x.open(api.CSet)
	out.Var = local
	return out
}

// get is a local.
func (x *expander) get(local int) api.Core {
	out := x.open(api.CLocal)
	out.Var = local
	return out
}

// prim is a primitive.
func (x *expander) prim(n int) api.Core {
	out := x.open(api.CPrim)
	out.Num = n
	return out
}

// constant is a piece as a datum.
func (x *expander) constant(s api.Syn) api.Core { return x.datum(rules.To(s)) }

// truth is a truth as a datum.
func (x *expander) truth(num int) api.Core { return x.atom(api.Node{Kind: api.GBool, Num: num}) }

// void is what says nothing.
func (x *expander) void() api.Core { return x.atom(api.Node{Kind: api.GVoid}) }

// atom is a datum of one node.
func (x *expander) atom(n api.Node) api.Core {
	return x.datum(api.Graph{Nodes: []api.Node{n}, Roots: []int{0}})
}

// datum is a constant.
func (x *expander) datum(g api.Graph) api.Core {
	out := x.open(api.CConst)
	for _, n := range g.Nodes {
		x.weigh(1 + len(n.Text))
	}
	out.Datum = g
	return out
}
