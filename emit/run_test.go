package emit_test

import (
	"slices"
	"strconv"
	"strings"
	"testing"

	"athanor/api"
	"athanor/emit"
)

// What code does is what the core form does: core forms are evaluated here, and their codes run, and both leave the same behind them.

// procedure is a closure: of a core form, or of a code.
type procedure struct {
	core   api.Core
	code   api.Code
	around *rib
}

type rib struct {
	locals []any
	outer  *rib
	names  []int
}

// frame is the marks of a frame, and the frame around it.
type frame struct {
	marks map[string]string
	outer *frame
}

func within(f *frame) *frame { return &frame{marks: map[string]string{}, outer: f} }

// world is what goes on, whoever does it: a trace of all that primitives were called with, and the globals.
type world struct {
	trace   []string
	globals map[string]any
	fuel    int
}

// over ends what takes too long.
type over struct{}

// wrong ends what goes wrong.
type wrong struct{}

func newWorld(fuel int) *world { return &world{globals: map[string]any{}, fuel: fuel} }

func (w *world) tick() {
	if w.fuel--; w.fuel < 0 {
		panic(over{})
	}
}

func (w *world) fail(what string) {
	w.trace = append(w.trace, "wrong: "+what)
	panic(wrong{})
}

func shown(v any) string {
	switch v := v.(type) {
	case string:
		return v
	case *procedure:
		return "procedure"
	case []any:
		out := "("
		for _, one := range v {
			out += shown(one) + " "
		}
		return out + ")"
	}
	return "unset"
}

// use is a primitive's call: it tells a text that says whether it is false.
func (w *world) use(n string, args []any, f *frame) any {
	var marks []string
	for ; f != nil; f = f.outer {
		var all []string
		for k, v := range f.marks {
			all = append(all, k+"="+v)
		}
		slices.Sort(all)
		if len(all) > 0 {
			marks = append(marks, strings.Join(all, ","))
		}
	}
	w.trace = append(w.trace, n+shown(args)+strings.Join(marks, "|"))
	return strconv.Itoa((len(n) + len(args) + len(w.trace)) % 3)
}

func (w *world) get(name string, env int) any {
	return w.globals[strconv.Itoa(env)+name] // one that has nothing yet is called as if it were a primitive, below
}

// arguments puts arguments into a new rib.
func (w *world) arguments(args []any, need int, rest bool, outer *rib) *rib {
	if len(args) < need || len(args) > need && !rest {
		w.fail("arguments")
	}
	r := &rib{locals: slices.Clone(args[:need]), outer: outer}
	if rest {
		r.locals = append(r.locals, slices.Clone(args[need:]))
	}
	return r
}

// eval evaluates a core form in a frame.
func (w *world) eval(c api.Core, r *rib, f *frame) any {
	w.tick()
	part := func(i int) any { return w.eval(c.Kids[i], r, within(f)) }
	switch c.Op {
	case api.CConst:
		return c.Datum.Nodes[0].Text
	case api.CGlobal:
		return w.get(c.Name, c.Env)
	case api.CPrim:
		return "p" + strconv.Itoa(c.Num)
	case api.CUnset:
		return nil
	case api.CLocal:
		at, i := find(r, c.Var)
		return at.locals[i]
	case api.CSet:
		v := part(0)
		at, i := find(r, c.Var)
		at.locals[i] = v
	case api.CSetG:
		w.globals[strconv.Itoa(c.Env)+c.Name] = part(0)
	case api.CDefine:
		w.globals["own"+strconv.Itoa(c.Env)+c.Name] = part(0)
	case api.CLambda:
		return &procedure{core: c, around: r}
	case api.CIf:
		if part(0) != any("0") {
			return w.eval(c.Kids[1], r, f)
		}
		return w.eval(c.Kids[2], r, f)
	case api.CSeq:
		for i := range len(c.Kids) - 1 {
			part(i)
		}
		return w.eval(c.Kids[len(c.Kids)-1], r, f)
	case api.CMark:
		k, v := shown(part(0)), shown(part(1))
		f.marks[k] = v
		return w.eval(c.Kids[2], r, f)
	case api.CApp:
		var all []any
		for i := range c.Kids {
			all = append(all, part(i))
		}
		return w.call(all[len(all)-1], all[:len(all)-1], f)
	}
	return "void"
}

// find goes from rib to rib for a number.
func find(r *rib, number int) (*rib, int) {
	for ; ; r = r.outer {
		if i := slices.Index(r.names, number); i >= 0 {
			return r, i
		}
	}
}

func (w *world) call(v any, args []any, f *frame) any {
	w.tick()
	p, ok := v.(*procedure)
	if !ok {
		return w.use(shown(v), args, f)
	}
	r := w.arguments(args, len(p.core.Params), p.core.Rest != 0, p.around)
	r.names = ribOf(p.core)
	return w.eval(p.core.Kids[0], r, f)
}

// machine is where a code goes on.
type machine struct {
	code  api.Code
	at    int
	rib   *rib
	stack []any
	frame *frame
}

// run runs a code. left is what goes on behind it.
func (w *world) run(code api.Code) any {
	m := machine{code: code, frame: within(nil)}
	var left []machine
	var hand any
	for {
		w.tick()
		i := m.code.Ins[m.at]
		m.at++
		switch i.Op {
		case api.IFrame:
			then := m
			then.at = i.A
			left = append(left, then)
			m.stack, m.frame = nil, within(m.frame)
		case api.IJump:
			m.at = i.A
		case api.IFalse:
			if hand == any("0") {
				m.at = i.A
			}
		case api.IPush:
			m.stack = append(slices.Clone(m.stack), hand)
		case api.IMark:
			m.frame.marks[shown(m.stack[len(m.stack)-1])] = shown(hand)
			m.stack = m.stack[:len(m.stack)-1]
		case api.ICall:
			if len(m.stack) != i.A {
				w.fail("the stack")
			}
			if p, ok := hand.(*procedure); ok {
				m = machine{code: p.code, rib: w.arguments(m.stack, p.code.Need, p.code.Rest, p.around), frame: m.frame}
				continue
			}
			hand = w.use(shown(hand), m.stack, m.frame)
			m.stack = nil
			fallthrough
		case api.IReturn:
			if len(m.stack) > 0 {
				w.fail("the stack")
			}
			if len(left) == 0 {
				return hand
			}
			m, left = left[len(left)-1], left[:len(left)-1]
		default:
			hand = w.value(m, i, hand)
		}
	}
}

// value is what is at hand behind an instruction that goes nowhere.
func (w *world) value(m machine, i api.Ins, hand any) any {
	k := api.Const{}
	if slices.Contains([]int{api.IConst, api.IGlobal, api.ISetG, api.IDefine, api.IClose}, i.Op) {
		k = m.code.Consts[i.A]
	}
	r := m.rib
	if i.Op == api.ILocal || i.Op == api.ISet {
		for range i.A {
			r = r.outer
		}
	}
	switch i.Op {
	case api.IConst:
		return k.Datum.Nodes[0].Text
	case api.ILocal:
		return r.locals[i.B]
	case api.IGlobal:
		return w.get(k.Name, k.Env)
	case api.ISet:
		r.locals[i.B] = hand
	case api.ISetG:
		w.globals[strconv.Itoa(k.Env)+k.Name] = hand
	case api.IDefine:
		w.globals["own"+strconv.Itoa(k.Env)+k.Name] = hand
	case api.IClose:
		return &procedure{code: k.Code, around: m.rib}
	case api.IPrim:
		return "p" + strconv.Itoa(i.A)
	case api.IUnset:
		return nil
	}
	return "void"
}

// end is how something ends that may go wrong, or take too long.
func end(w *world, do func() any) (out string) {
	defer func() {
		switch recover().(type) {
		case over:
			out = "over"
		case wrong:
			out = "wrong"
		}
	}()
	return shown(do())
}

func TestCodeDoesWhatTheFormDoes(t *testing.T) {
	s := newSampler(147)
	ends := map[string]int{}
	traced := 0
	for range 20000 {
		c := s.whole(7)
		code, err := emit.Emit(c)
		if err != api.OK {
			t.Fatal(err)
		}
		a, b := newWorld(2000), newWorld(20000)
		wanted := end(a, func() any { return a.eval(c, nil, within(nil)) })
		ends[wanted]++
		if wanted == "over" {
			continue
		}
		got := end(b, func() any { return b.run(code) })
		if got != wanted || !slices.Equal(a.trace, b.trace) || len(a.globals) != len(b.globals) {
			t.Fatalf("%s:\n%s %q, want\n%s %q", show(code), got, b.trace, wanted, a.trace)
		}
		for name, v := range a.globals {
			if shown(b.globals[name]) != shown(v) {
				t.Fatalf("%s: %s is %s, not %s", show(code), name, shown(b.globals[name]), shown(v))
			}
		}
		traced += len(a.trace)
	}
	if traced < 50000 || ends["wrong"] < 500 || ends["procedure"] < 500 || ends["0"] < 500 {
		t.Errorf("%d calls of primitives, %v", traced, ends)
	}
}
