package expand_test

import (
	"math"
	"math/rand"
	"slices"
	"strconv"
	"testing"

	"athanor/api"
	"athanor/expand"
	"athanor/rules"
)

// Wrong inputs: every call ends, none panics, and nothing that is handed in is changed.

// copied shares nothing with what it copies; behind each of its lists lies something that must stay.
func copied(s api.Syn) api.Syn {
	s.Stamps = append(append([]int(nil), s.Stamps...), -77)[:len(s.Stamps)]
	s.Kids = copiedAll(s.Kids)
	s.Tail = copiedAll(s.Tail)
	s.Atom.Kids = append(append([]int(nil), s.Atom.Kids...), -77)[:len(s.Atom.Kids)]
	return s
}

func copiedAll(all []api.Syn) []api.Syn {
	var out []api.Syn
	for _, s := range all {
		out = append(out, copied(s))
	}
	return append(out, id("behind"))[:len(all)]
}

// trace tells all that hangs on a piece, and what lies behind the ends of its lists.
func trace(s api.Syn) string {
	out := strconv.Itoa(s.Kind) + strconv.Quote(s.Text) + strconv.Itoa(s.Atom.Kind) + "," + strconv.Itoa(s.Atom.Num) + strconv.Quote(s.Atom.Text)
	for _, n := range s.Stamps[:cap(s.Stamps)] {
		out += " " + strconv.Itoa(n)
	}
	for _, n := range s.Atom.Kids[:cap(s.Atom.Kids)] {
		out += " " + strconv.Itoa(n)
	}
	return out + "(" + traceAll(s.Kids) + " . " + traceAll(s.Tail) + ")"
}

func traceAll(all []api.Syn) string {
	out := ""
	for _, s := range all[:cap(all)] {
		out += " " + trace(s)
	}
	return out
}

func TestNoLook(t *testing.T) {
	for _, source := range []string{"x", "5", "(define x 5)", "(begin)", "(define-syntax m (syntax-rules ()))", "(define-record-type T (C) P)", "()", "if"} {
		if got := answer(expand.Top(pieceOf(source), nil)); got != "ErrSyntax" {
			t.Errorf("%s: %s", source, got)
		}
	}
	if got := answer(expand.Top(api.Syn{}, nil)); got != "ErrSyntax" {
		t.Error(got)
	}
}

// noPieces are what may not be pieces.
func noPieces() []api.Syn {
	ring := make([]api.Syn, 2)
	ring[0], ring[1] = list(ring...), number(1)
	ring[0].Kids = ring
	return []api.Syn{
		{}, {Kind: 5}, {Kind: -1}, {Kind: api.SId, Text: "x", Kids: []api.Syn{id("y")}}, {Kind: api.SId, Text: "x", Tail: []api.Syn{id("y")}}, {Kind: api.SId, Text: "x", Atom: api.Node{Kind: api.GInt, Text: "1"}},
		{Kind: api.SList, Text: "x"}, {Kind: api.SList, Stamps: []int{1}}, {Kind: api.SList, Tail: []api.Syn{id("x")}}, {Kind: api.SList, Kids: []api.Syn{id("v")}, Tail: []api.Syn{list()}}, {Kind: api.SList, Kids: []api.Syn{id("v")}, Tail: []api.Syn{id("x"), id("y")}},
		{Kind: api.SVector, Tail: []api.Syn{id("x")}}, {Kind: api.SVector, Text: "x"}, {Kind: api.SAtom}, {Kind: api.SAtom, Atom: api.Node{Kind: api.GNull}}, {Kind: api.SAtom, Atom: api.Node{Kind: api.GInt, Text: "007"}}, {Kind: api.SAtom, Atom: api.Node{Kind: api.GSym, Text: "x"}}, {Kind: api.SAtom, Text: "x", Atom: api.Node{Kind: api.GInt, Text: "1"}},
		ring[0],
	}
}

func TestNoPieces(t *testing.T) {
	w := plain()
	for _, s := range noPieces() {
		for what, form := range map[string]api.Syn{"alone": s, "quoted": call("quote", s), "in a begin": call("begin", s), "defined": call("define", id("x"), s), "called": list(s), "in a vector": vector(s), "as a Tail": {Kind: api.SList, Kids: []api.Syn{id("quote")}, Tail: []api.Syn{s}}, "in a macro": call("define-syntax", id("m"), call("syntax-rules", list(), list(list(id("_")), s)))} {
			if what == "as a Tail" && s.Kind == api.SList {
				continue
			}
			if got := topOf(w, form); got != "ErrSyntax" {
				t.Errorf("%s: %.200s", what, got)
			}
		}
	}
}

// What look tells may be anything.
func TestOddLooks(t *testing.T) {
	m := macroOf("(syntax-rules (l) ((_ l a) (list a)) ((_ . r) (begin . r)))")
	bad := api.Macro{Ellipsis: list(), Rules: []api.Rule{{}}}
	r := rand.New(rand.NewSource(134))
	s := &sampler{Rand: r}
	for _, f := range []api.Found{{Kind: api.FMacro}, {Kind: api.FMacro, Macro: bad}, {Kind: api.FSpecial, N: -1}, {Kind: api.FSpecial, N: 30}, {Kind: api.FSpecial, N: math.MaxInt}, {Kind: -1}, {Kind: 5}, {Kind: math.MinInt}} {
		w := plain().with(0, "odd", f)
		refusesAll(t, w, "odd", "(odd)", "(odd 1 2)", "(define x odd)", "(list odd)", "(set! odd 1)", "(lambda () (odd) 1)", "(cond (1 odd))", "(let ((x odd)) x)")
		checkAll(t, w, "(define odd 1)", "(define odd '1)", "(lambda (odd) (odd 1))", "(lambda (1) (app '1 1))", "(quote odd)", "'odd", "(quasiquote (odd (unquote v)))", "(app 'odd (app v '() :cons) :cons)")
	}
	checkAll(t, plain().with(0, "p", api.Found{Kind: api.FPrim, N: -7}).with(0, "q", api.Found{Kind: api.FPrim, N: math.MaxInt}), "(p q)", "(app :9223372036854775807 :-7)")
	checkAll(t, plain().with(0, "m", api.Found{Kind: api.FMacro, Env: math.MinInt, Macro: macroOf("(syntax-rules () ((_) y))")}), "(m)", "y@-9223372036854775808")
	for range 4000 {
		seed := r.Int63()
		look := func(env int, name string) api.Found { // anything, but the same of the same
			h := seed + int64(env)*7919
			for _, c := range name {
				h = h*31 + int64(c)
			}
			d := rand.New(rand.NewSource(h))
			if d.Intn(3) > 0 {
				return builtin(name)
			}
			return api.Found{Kind: d.Intn(8) - 1, N: d.Intn(40) - 5, Env: d.Intn(5) - 1, Macro: []api.Macro{m, bad, s.macro()}[d.Intn(3)]}
		}
		top, err := expand.Top(s.top(3), look)
		if err != api.OK && answer(top, err) != "ErrSyntax" {
			t.Fatal(answer(top, err))
		}
		if err == api.OK {
			checkLocals(t, "odd looks", top.Core)
		}
	}
}

// A look that panics is wrong, but Top does not.
func TestLooksThatPanic(t *testing.T) {
	w := nested()
	for n := range 12 {
		asked := 0
		look := func(env int, name string) api.Found {
			if asked++; asked > n {
				panic("no")
			}
			return w.look(env, name)
		}
		if got := answer(expand.Top(pieceOf("(lambda (x) (swap! x y) (let ((z car)) (my-or x list v nothing cdr cons)))"), look)); got != "ErrSyntax" {
			t.Errorf("%d: %s", n, got)
		}
	}
}

// A look that always tells something else: whatever is made of it, there is an end.
func TestLooksThatChange(t *testing.T) {
	r := rand.New(rand.NewSource(135))
	s := &sampler{Rand: r}
	base := worlds()
	for range 1500 {
		w := s.world(base)
		form := s.top(3)
		top, err := expand.Top(form, func(env int, name string) api.Found {
			if r.Intn(4) == 0 {
				name = s.name().Text
			}
			return w.look(r.Intn(4), name)
		})
		if got := answer(top, err); err != api.OK && got != "ErrSyntax" {
			t.Fatal(got)
		}
	}
}

// wild is something that may be a piece, or not, and may go round.
func wild(s *sampler, all []api.Syn, depth int) api.Syn {
	if len(all) > 0 && s.Intn(12) == 0 {
		return all[s.Intn(len(all))]
	}
	if depth > 0 && s.Intn(3) > 0 {
		var kids []api.Syn
		for range s.Intn(5) {
			kids = append(kids, wild(s, all, depth-1))
		}
		if s.Intn(2) == 0 {
			kids = append([]api.Syn{id(api.Specials[s.Intn(len(api.Specials))], s.Perm(4)[:s.Intn(3)]...)}, kids...)
		}
		out := api.Syn{Kind: api.SList + s.Intn(8)/7, Kids: kids}
		if s.Intn(6) == 0 {
			out.Tail = append(out.Tail, wild(s, all, 0))
		}
		return out
	}
	if s.Intn(60) == 0 {
		return api.Syn{Kind: s.Intn(7) - 1, Text: s.one("", "x", "\xff"), Atom: api.Node{Kind: s.Intn(18)}}
	}
	return s.expr(1)
}

func TestWildForms(t *testing.T) {
	s := &sampler{Rand: rand.New(rand.NewSource(136))}
	base := worlds()
	told := 0
	var w world
	for i := range 40000 {
		if i%20 == 0 {
			w = s.world(base)
		}
		var around []api.Syn
		if s.Intn(10) == 0 {
			around = noPieces()
		}
		f := wild(s, around, 4)
		top, err := expand.Top(f, w.look)
		got := answer(top, err)
		if err != api.OK && got != "ErrSyntax" || got == "!something else!" {
			t.Fatal(got)
		}
		if rules.Size(f) > api.MaxForms && err == api.OK {
			t.Fatalf("something of no piece: %s", got)
		}
		if wanted := answer(modelTop(w, f)); rules.Size(f) <= api.MaxForms && got != wanted {
			t.Fatalf("%s\nm0 %s\nm1 %s\nm2 %s:\n%s, want\n%s", write(f), writeMacro(w[0]["m0"].Macro), writeMacro(w[0]["m1"].Macro), writeMacro(w[0]["m2"].Macro), got, wanted)
		}
		if err == api.OK {
			told++
		}
	}
	if told < 5000 {
		t.Errorf("told: %d", told)
	}
}

// What is handed in is not changed, nor what lies behind the ends of its lists; what was told stays, whatever is asked behind it.
func TestNothingIsChanged(t *testing.T) {
	s := &sampler{Rand: rand.New(rand.NewSource(137))}
	base := worlds()
	for range 400 {
		w := s.world(base)
		var macros []api.Macro
		for env := range w {
			for _, name := range []string{"m0", "m1", "m2", "my-or", "two", "def"} {
				f := w[env][name]
				m := api.Macro{Ellipsis: copied(f.Macro.Ellipsis), Literals: copiedAll(f.Macro.Literals)}
				for _, rule := range f.Macro.Rules {
					m.Rules = append(m.Rules, api.Rule{Pattern: copied(rule.Pattern), Template: copied(rule.Template)})
				}
				f.Macro = m
				w[env][name] = f
				macros = append(macros, m)
			}
		}
		var forms []api.Syn
		for range 5 {
			forms = append(forms, copied(s.top(3)))
		}
		all := func() string {
			out := traceAll(forms[:len(forms):len(forms)])
			for _, m := range macros {
				out += trace(m.Ellipsis) + traceAll(m.Literals)
				for _, rule := range m.Rules {
					out += trace(rule.Pattern) + trace(rule.Template)
				}
			}
			return out
		}
		was := all()
		var tops []api.Top
		var shown []string
		for _, f := range forms {
			top, err := expand.Top(f, w.look)
			tops, shown = append(tops, top), append(shown, answer(top, err))
		}
		if all() != was {
			t.Fatal("changed")
		}
		for i, top := range tops {
			if shown[i] != "ErrSyntax" && answer(top, api.OK) != shown[i] {
				t.Fatalf("%s became %s", shown[i], answer(top, api.OK))
			}
		}
	}
}

// Pieces that have no datum, since no graph has such a node, are constants without one, as To tells.
func TestPiecesWithoutADatum(t *testing.T) {
	for _, s := range []api.Syn{vector(row(api.MaxItems+1, number(1))...), call("quote", vector(row(api.MaxItems+1, number(1))...)), call("quote", id("")), call("quote", list(id("\xff")))} {
		top, err := expand.Top(s, plain().look)
		if err != api.OK || top.Core.Op != api.CConst || len(top.Core.Datum.Nodes)+len(top.Core.Datum.Roots) != 0 {
			t.Errorf("error %d, %d nodes", err, len(top.Core.Datum.Nodes))
		}
	}
	top, err := expand.Top(vector(row(api.MaxItems, number(1))...), plain().look)
	if err != api.OK || len(top.Core.Datum.Roots) != 1 || len(top.Core.Datum.Nodes) != 2 {
		t.Errorf("error %d, %d nodes", err, len(top.Core.Datum.Nodes))
	}
	if got := topOf(plain(), id("")); got != "" {
		t.Error(got)
	}
}

// Locals are numbers from 1 on, each of which one binding has.
func TestLocals(t *testing.T) {
	for _, source := range []string{"(lambda (x y . z) (lambda (x) (let ((x 1) (y 2)) x)))", "(or 1 2 3)", "(guard (x (1 => x) (x)) (guard (x) 1))", "(do ((i 1)) (i) (let loop ((i i)) loop))", "(let* ((x 1) (x 2)) (define x 1) (define-record-type T (C) P) x)", "(case 1 ((a) (cond (1))))"} {
		top, err := expand.Top(pieceOf(source), plain().look)
		if err != api.OK {
			t.Errorf("%s: %d", source, err)
		}
		checkLocals(t, source, top.Core)
		if !slices.Contains(bound(top.Core), 1) {
			t.Errorf("%s: no 1", source)
		}
	}
}
