package expand_test

import (
	"math/rand"
	"slices"
	"strconv"
	"strings"
	"testing"

	"athanor/api"
	"athanor/expand"
)

// Promise 13.2: what follows.

// unnamed makes random forms whose own locals have no names yet: they are #1, #2 and on, each bound once.
type unnamed struct {
	*rand.Rand
	count  int
	bound  []string            // those around
	differ map[string][]string // by local, what must not have its name: what stands free where it is bound, and what is bound with it
}

// free are the texts that stand free in a form.
type free map[string]bool

func (f free) with(others ...free) free {
	out := free{}
	for _, all := range append(others, f) {
		for k := range all {
			out[k] = true
		}
	}
	return out
}

func (u *unnamed) one(all ...string) string { return all[u.Intn(len(all))] }

// within makes forms within which so many new locals are bound.
func (u *unnamed) within(n int, make func(ids []api.Syn) ([]api.Syn, free)) ([]api.Syn, []api.Syn, free) {
	var ids []api.Syn
	var names []string
	for range n {
		u.count++
		names = append(names, "#"+strconv.Itoa(u.count))
		ids = append(ids, id(names[len(names)-1]))
	}
	outer := u.bound
	u.bound = append(slices.Clone(outer), names...)
	forms, f := make(ids)
	u.bound = outer
	out := f.with()
	for _, name := range names {
		delete(out, name)
	}
	for i, name := range names {
		for k := range out {
			u.differ[name] = append(u.differ[name], k)
		}
		u.differ[name] = append(u.differ[name], names[:i]...)
		for k := range f { // those that are bound further in have their names from this one on
			if strings.HasPrefix(k, "#") && k != name {
				u.differ[name] = append(u.differ[name], k)
			}
		}
	}
	return ids, forms, out
}

// some makes so many expressions.
func (u *unnamed) some(n, depth int) ([]api.Syn, free) {
	var out []api.Syn
	f := free{}
	for range n {
		s, g := u.expr(depth)
		out = append(out, s)
		f = f.with(g)
	}
	return out, f
}

// expr makes an expression.
func (u *unnamed) expr(depth int) (api.Syn, free) {
	switch n := u.Intn(10); {
	case depth > 0 && n < 7:
		return u.form(depth - 1)
	case len(u.bound) > 0 && n < 9:
		name := u.bound[u.Intn(len(u.bound))]
		return id(name), free{name: true}
	case n < 8:
		return number(u.Intn(10)), nil
	}
	name := u.one("v", "car", "cons", "nothing")
	return id(name), free{name: true}
}

// headed is a form that begins with a name.
func headed(name string, kids []api.Syn, f free) (api.Syn, free) {
	return call(name, kids...), f.with(free{name: true})
}

func (u *unnamed) form(d int) (api.Syn, free) {
	switch u.Intn(16) {
	case 0:
		return u.lambda(d)
	case 1, 2:
		return u.let(d, u.one("let", "my-let"))
	case 3:
		return u.letrec(d)
	case 4:
		return u.loop(d)
	case 5:
		return u.body(d)
	case 6:
		return u.guard(d)
	case 7:
		kids, f := u.some(1+u.Intn(3), d)
		return headed(u.one("or", "and", "my-or", "begin"), kids, f)
	case 8:
		kids, f := u.some(3, d)
		return headed("if", kids, f)
	case 9:
		return u.cond(d)
	case 10, 11:
		return u.macro(d)
	case 12:
		kids, f := u.some(2, d)
		return call("quasiquote", list(id("one"), call("unquote", kids[0]), call("unquote-splicing", kids[1]))), f.with(free{"quasiquote": true, "unquote": true, "unquote-splicing": true})
	case 13:
		if len(u.bound) == 0 {
			return u.expr(d)
		}
		kids, f := u.some(1, d)
		name := u.bound[u.Intn(len(u.bound))]
		return headed("set!", []api.Syn{id(name), kids[0]}, f.with(free{name: true}))
	}
	kids, f := u.some(1+u.Intn(3), d)
	return list(kids...), f
}

func (u *unnamed) lambda(d int) (api.Syn, free) {
	ids, body, f := u.within(1+u.Intn(3), func([]api.Syn) ([]api.Syn, free) { return u.some(1, d) })
	params := list(ids...)
	if len(ids) > 1 && u.Intn(2) == 0 {
		params = dotted(ids[0], ids[1:]...)
	}
	return headed("lambda", append([]api.Syn{params}, body...), f)
}

// pairsFor are bindings of locals to expressions.
func pairsFor(ids, values []api.Syn) api.Syn {
	var out []api.Syn
	for i := range ids {
		out = append(out, list(ids[i], values[i]))
	}
	return list(out...)
}

func (u *unnamed) let(d int, name string) (api.Syn, free) {
	n := u.Intn(3)
	values, f := u.some(n, d)
	ids, body, g := u.within(n, func([]api.Syn) ([]api.Syn, free) { return u.some(1, d) })
	return headed(name, append([]api.Syn{pairsFor(ids, values)}, body...), f.with(g))
}

func (u *unnamed) letrec(d int) (api.Syn, free) {
	n := 1 + u.Intn(2)
	ids, forms, f := u.within(n, func([]api.Syn) ([]api.Syn, free) { return u.some(n+1, d) })
	return headed(u.one("letrec", "letrec*"), []api.Syn{pairsFor(ids, forms), forms[n]}, f)
}

// loop is a do.
func (u *unnamed) loop(d int) (api.Syn, free) {
	values, f := u.some(1, d)
	ids, forms, g := u.within(1, func([]api.Syn) ([]api.Syn, free) { return u.some(4, d) })
	return headed("do", []api.Syn{list(list(ids[0], values[0], forms[0])), list(forms[1], forms[2]), forms[3]}, f.with(g))
}

// body is a body with definitions.
func (u *unnamed) body(d int) (api.Syn, free) {
	_, forms, f := u.within(2, func(ids []api.Syn) ([]api.Syn, free) {
		kids, f := u.some(2, d)
		name := u.one("define", "def")
		return []api.Syn{call("two", ids[0]), call(name, ids[1], kids[0]), kids[1]}, f.with(free{name: true, "two": true})
	})
	return headed("let", append([]api.Syn{list()}, forms...), f)
}

func (u *unnamed) guard(d int) (api.Syn, free) {
	body, f := u.some(1, d)
	ids, kids, g := u.within(1, func([]api.Syn) ([]api.Syn, free) {
		kids, f := u.some(4, d)
		return kids, f.with(free{"=>": true, "else": true})
	})
	clauses := list(ids[0], list(kids[0], kids[1]), list(kids[2], id("=>"), kids[3]))
	return headed("guard", append([]api.Syn{clauses}, body...), f.with(g))
}

func (u *unnamed) cond(d int) (api.Syn, free) {
	k, f := u.some(5, d)
	return headed("cond", []api.Syn{list(k[0]), list(k[1], id("=>"), k[2]), list(k[3], k[4]), call("else", k[0])}, f.with(free{"=>": true, "else": true}))
}

// macro is a macro's use. (What is handed to lit is no literal, for it is a local, whatever its name.)
func (u *unnamed) macro(d int) (api.Syn, free) {
	k, f := u.some(2, d)
	switch u.Intn(6) {
	case 0:
		if len(u.bound) > 1 {
			a, b := u.bound[u.Intn(len(u.bound))], u.bound[u.Intn(len(u.bound))]
			return headed("swap!", []api.Syn{id(a), id(b)}, free{a: true, b: true})
		}
	case 1:
		return headed("while", k, f)
	case 2:
		return headed("with-x", k[:1], f)
	case 3:
		ids, forms, g := u.within(1, func([]api.Syn) ([]api.Syn, free) { return u.some(1, d) })
		return headed("lam", []api.Syn{ids[0], forms[0]}, g)
	case 4:
		return headed("tmps", []api.Syn{list(k...), list(), list()}, f)
	}
	if len(u.bound) == 0 {
		return k[0], f
	}
	name := u.bound[u.Intn(len(u.bound))]
	return headed("lit", []api.Syn{id(name)}, free{name: true})
}

// named gives locals names: at random, where they may be so called.
func (u *unnamed) named() map[string]string {
	out := map[string]string{}
	for i := range u.count {
		own := "#" + strconv.Itoa(i+1)
		out[own] = "u" + own
		for range 6 {
			try := u.one("t", "tmp", "x", "loop", "if", "let", "lambda", "begin", "list", "set!", "else", "=>", "quote", "define", "car", "my-or", "a", "b", "n", "e", "r", "v", "cons", "nothing", "unquote", "lit", "one", "k", "j", "call/cc", "raise-continuable", "append")
			if !u.clashes(own, try, out) {
				out[own] = try
				break
			}
		}
	}
	return out
}

// clashes tells whether a local may not have a name, as others are called.
func (u *unnamed) clashes(own, name string, called map[string]string) bool {
	same := func(other string) bool { return other == name || called[other] == name }
	if slices.ContainsFunc(u.differ[own], same) {
		return true
	}
	for other, all := range u.differ { // and those that were named ahead, where this one stands free
		if called[other] == name && slices.Contains(all, own) {
			return true
		}
	}
	return false
}

// renamed is a piece with its identifiers called otherwise.
func renamed(s api.Syn, names map[string]string) api.Syn {
	if other, ok := names[s.Text]; ok && s.Kind == api.SId {
		return id(other, s.Stamps...)
	}
	out := s
	out.Kids, out.Tail = nil, nil
	for _, k := range s.Kids {
		out.Kids = append(out.Kids, renamed(k, names))
	}
	for _, k := range s.Tail {
		out.Tail = append(out.Tail, renamed(k, names))
	}
	return out
}

// followWorld is a world of macros that bind names of their own.
func followWorld() world {
	return nested().
		macro(0, "def", "(syntax-rules () ((_ n e) (define n e)))").
		macro(0, "lit", "(syntax-rules (else => a if car t x tmp list v) ((_ else) 1) ((_ =>) 2) ((_ a) 3) ((_ if) 4) ((_ car) 5) ((_ t) 6) ((_ x) 7) ((_ tmp) 8) ((_ list) 9) ((_ v) 10) ((_ y) (let ((t y)) (list y t))))")
}

// otherNames is a world in which what macros bind is called otherwise.
func otherNames(w world, r *rand.Rand) world {
	pool := []string{"a", "b", "v", "nothing", "t", "tmp", "x", "loop", "uu", "k", "one", "car", "cons"}
	out := world{0: {}}
	for name, f := range w[0] {
		names := map[string]string{}
		at := r.Perm(len(pool))
		for i, own := range []string{"t", "tmp", "x", "loop"} {
			names[own] = pool[at[i]]
		}
		if f.Kind == api.FMacro && name != "my-let" && name != "tmps" && name != "while" && name != "my-let*" && name != "lit" {
			var all []api.Rule
			for _, rule := range f.Macro.Rules {
				taken := leaves(rule.Pattern)
				for own, other := range names {
					if slices.Contains(taken, other) || slices.Contains(taken, own) {
						names[own] = own + "-own"
					}
				}
				all = append(all, api.Rule{Pattern: renamed(rule.Pattern, names), Template: renamed(rule.Template, names)})
			}
			f.Macro.Rules = all
		}
		out[0][name] = f
	}
	return out
}

// leaves are the texts of a piece's identifiers.
func leaves(s api.Syn) []string {
	if s.Kind == api.SId {
		return []string{s.Text}
	}
	var out []string
	for _, k := range slices.Concat(s.Kids, s.Tail) {
		out = append(out, leaves(k)...)
	}
	return out
}

func TestNamesOfLocalsDoNotCount(t *testing.T) {
	r := rand.New(rand.NewSource(132))
	base := followWorld()
	told, other := 0, map[string]int{}
	for range 6000 {
		u := &unnamed{Rand: r, differ: map[string][]string{}}
		s, _ := u.expr(4)
		s = call("list", s) // no begin at the outermost level, which would be told as it is
		want := topOf(base, s)
		if want != "ErrSyntax" && u.count > 0 {
			told++
		}
		for range 3 {
			names := u.named()
			for own, name := range names {
				if name != "u"+own {
					other[name]++
				}
			}
			if got := topOf(base, renamed(s, names)); got != want {
				t.Fatalf("%s, and as\n%s:\n%s, want\n%s", write(s), write(renamed(s, names)), got, want)
			}
			w := otherNames(base, r)
			if got := topOf(w, renamed(s, names)); got != want {
				t.Fatalf("%s where macros bind others:\n%s, want\n%s", write(renamed(s, names)), got, want)
			}
		}
	}
	if told < 2500 {
		t.Errorf("told: %d", told)
	}
	for _, name := range []string{"t", "tmp", "x", "loop", "if", "let", "lambda", "list", "else", "=>", "k", "j", "call/cc"} {
		if other[name] < 100 {
			t.Errorf("%s is the name of %d locals alone", name, other[name])
		}
	}
}

// What is asked again, in other memory, is told again.
func TestTopHangsOnItsArgumentsAlone(t *testing.T) {
	s := &sampler{Rand: rand.New(rand.NewSource(133))}
	base := worlds()
	for range 300 {
		w := s.world(base)
		var forms []api.Syn
		var first []string
		for range 5 {
			f := s.top(3)
			forms, first = append(forms, f), append(first, topOf(w, f))
		}
		for i := range forms {
			if again := topOf(w, copied(forms[len(forms)-1-i])); again != first[len(forms)-1-i] {
				t.Fatalf("%s: %s, want %s", write(forms[len(forms)-1-i]), again, first[len(forms)-1-i])
			}
		}
	}
}

// A form that stands within look's own answer changes nothing of the one around it.
func TestTopWithinLook(t *testing.T) {
	w := nested()
	var look func(env int, name string) api.Found
	depth := 0
	look = func(env int, name string) api.Found {
		if depth < 2 {
			depth++
			expand.Top(pieceOf("(lambda (x y) (my-or x y z))"), look)
			depth--
		}
		return w.look(env, name)
	}
	if got := answer(expand.Top(pieceOf("(lambda (t) (my-or t 1))"), look)); got != topOf(w, pieceOf("(lambda (t) (my-or t 1))")) {
		t.Error(got)
	}
}
