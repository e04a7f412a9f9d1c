package rules_test

import (
	"math"
	"math/rand"
	"slices"
	"testing"

	"athanor/api"
	"athanor/rules"
)

// Wrong inputs: every call ends, none panics, and nothing that is handed in is changed.

// refusesUse holds that Use answers ErrSyntax.
func refusesUse(t *testing.T, what string, m api.Macro, form api.Syn, same func(a, b api.Syn) bool) {
	t.Helper()
	if s, err := rules.Use(m, form, 7, same); answer(s, err) != "ErrSyntax" {
		t.Errorf("%s: %.200s", what, answer(s, err))
	}
}

func TestUseWithoutSame(t *testing.T) {
	for _, source := range []string{"(syntax-rules () ((_ . r) r))", "(syntax-rules ())", "(syntax-rules (l) ((_ l) 1))"} {
		refusesUse(t, source, macro(t, source), piece(t, "(m 1)"), nil)
	}
}

func TestFormsThatMayNotBe(t *testing.T) {
	m := macro(t, "(syntax-rules () ((_ . r) r))")
	for _, source := range []string{"m", "5", "()", "#()", "#(m 1)", "\"m\""} {
		refusesUse(t, source, m, piece(t, source), same)
		refusesUse(t, source, macro(t, "(syntax-rules ())"), piece(t, source), same) // though no rule fits
	}
	for _, bad := range noPieces() {
		refusesUse(t, write(bad), m, bad, same)
		for _, s := range around(bad) {
			refusesUse(t, write(s), m, list(id("m"), s), same)
			refusesUse(t, write(s), m, list(s, id("x")), same) // the first kid, too
			refusesUse(t, write(s), m, list(id("m"), id("x"), s), same)
		}
		refusesUse(t, write(bad), m, dotted(bad, id("m")), same)
	}
}

// ruleOf is a macro of one rule.
func ruleOf(pattern, template api.Syn) api.Macro {
	return api.Macro{Ellipsis: id("..."), Rules: []api.Rule{{Pattern: pattern, Template: template}}}
}

func TestMacrosThatMayNotBe(t *testing.T) {
	fine := list(id("_"), id("a"))
	f := piece(t, "(m 1)")
	if s, err := rules.Use(ruleOf(fine, id("a")), f, 7, same); answer(s, err) != "1" {
		t.Fatal(answer(s, err))
	}
	refusesUse(t, "no macro", api.Macro{}, f, same)
	for _, s := range append(noPieces(), list(), list(id("...")), vector(), number(5), text("...")) {
		m := ruleOf(fine, id("a"))
		m.Ellipsis = s
		refusesUse(t, "the ellipsis "+write(s), m, f, same)
	}
	for _, s := range append(noPieces(), list(), list(id("a")), vector(), number(5), text("l")) {
		m := ruleOf(fine, id("a"))
		m.Literals = []api.Syn{id("l"), s}
		refusesUse(t, "the literal "+write(s), m, f, same)
		m.Literals = []api.Syn{s}
		m.Rules = nil
		refusesUse(t, "the only literal "+write(s), m, f, same)
	}
	for _, s := range append(noPieces(), id("_"), list(), vector(id("_")), number(5), list(number(5)), list(list(id("_"))), dotted(id("a"), number(1))) {
		refusesUse(t, "the pattern "+write(s), ruleOf(s, id("x")), f, same)
	}
	for _, bad := range noPieces() {
		for _, s := range around(bad) {
			refusesUse(t, "in a pattern "+write(s), ruleOf(list(id("_"), s), id("x")), f, same)
			refusesUse(t, "in a template "+write(s), ruleOf(fine, s), f, same)
		}
	}
	// a list in the ellipsis's place is not taken for literals, nor are literals taken for a rule
	refusesUse(t, "a list as an ellipsis", api.Macro{Ellipsis: list(), Literals: []api.Syn{fine, id("a")}}, f, same)
	refusesUse(t, "a list as an ellipsis", api.Macro{Ellipsis: list(id("l")), Literals: []api.Syn{fine, id("a")}, Rules: []api.Rule{{Pattern: fine, Template: id("a")}}}, f, same)
}

// What Parse refuses Use refuses, too: in a rule that fits, behind one that fits, and where none fits.
func TestRulesThatMayNotBe(t *testing.T) {
	fits := api.Rule{Pattern: list(id("_"), id("a")), Template: id("a")}
	for _, source := range []string{
		"((_ a a) x)", "((_ ...) x)", "((_ ... a) x)", "((_ a ... b ...) x)", "((_ a . ...) x)", "((_ #(...)) x)", "((_ a) ...)", "((_ a) (a ...))", "((_ a ...) a)", "((_ a ...) (a ... ...))", "((_ a) (... a b))", "((_ a) (x . ...))", "((_ a ...) (x ...))", "((_ (a ...) ...) (a ...))",
	} {
		s := piece(t, source)
		bad := api.Rule{Pattern: s.Kids[0], Template: s.Kids[1]}
		for _, some := range [][]api.Rule{{bad}, {fits, bad}, {bad, fits}} {
			m := api.Macro{Ellipsis: id("..."), Rules: some}
			for _, form := range []string{"(m 1)", "(m 1 2)", "(m)", "(m (1))"} {
				refusesUse(t, source, m, piece(t, form), same)
			}
		}
	}
}

// wild is something that may be a piece, or not, and may go round.
func wild(r *rand.Rand, all []api.Syn, depth int) api.Syn {
	if len(all) > 0 && r.Intn(6) == 0 {
		return all[r.Intn(len(all))]
	}
	some := func(n int) []api.Syn {
		var out []api.Syn
		for range n {
			if depth > 0 {
				out = append(out, wild(r, all, depth-1))
			}
		}
		return out
	}
	s := api.Syn{Kind: 1 + r.Intn(4)}
	if r.Intn(30) == 0 {
		s.Kind = []int{0, 5, -1, math.MaxInt, math.MinInt}[r.Intn(5)]
	}
	if s.Kind == api.SId || r.Intn(30) == 0 {
		s.Text = []string{"a", "b", "...", "_", "l", "", "\xff"}[r.Intn(7)]
	}
	if r.Intn(20) == 0 {
		s.Stamps = []int{r.Intn(2), math.MinInt}
	}
	if s.Kind == api.SAtom || r.Intn(30) == 0 {
		s.Atom = api.Node{Kind: r.Intn(19), Num: r.Intn(3) - 1, Text: []string{"", "1", "007", "\xff"}[r.Intn(4)]}
	}
	if s.Kind == api.SList || s.Kind == api.SVector || r.Intn(30) == 0 {
		s.Kids = some(r.Intn(4))
	}
	if s.Kind == api.SList && r.Intn(4) == 0 || r.Intn(30) == 0 {
		s.Tail = some(1 + r.Intn(8)/7)
	}
	return s
}

func TestWildInputs(t *testing.T) {
	r := rand.New(rand.NewSource(127))
	ring := make([]api.Syn, 2)
	ring[0], ring[1] = api.Syn{Kind: api.SList, Kids: ring}, id("a")
	round := make([]api.Syn, 1)
	round[0] = api.Syn{Kind: api.SVector, Kids: round}
	trunks := []api.Syn{ring[0], round[0], list(id("_"), id("a"), id("...")), list(id("a"), id("...")), list(id("..."), id("..."))}
	check := func(s api.Syn, err api.Errno) {
		t.Helper()
		if err == api.OK && rules.Size(s) > api.MaxForms {
			t.Fatalf("no piece is told")
		}
		if err != api.OK && !isNothing(s) {
			t.Fatalf("something beside %d", err)
		}
	}
	for range 40000 {
		s := wild(r, trunks, 4)
		if g := rules.To(s); rules.Size(s) > api.MaxForms && !isNoGraph(g) {
			t.Fatal("a graph of what is no piece")
		}
		m, err := rules.Parse(s)
		if err != api.OK && (err != api.ErrSyntax || !isNoMacro(m)) {
			t.Fatalf("Parse: %d", err)
		}
		wildMacro := api.Macro{Ellipsis: wild(r, trunks, 0), Literals: []api.Syn{wild(r, trunks, 0)}[:r.Intn(2)]}
		for range r.Intn(3) {
			wildMacro.Rules = append(wildMacro.Rules, api.Rule{Pattern: wild(r, trunks, 3), Template: wild(r, trunks, 3)})
		}
		if r.Intn(2) == 0 {
			wildMacro.Ellipsis = id("...")
		}
		check(rules.Use(wildMacro, s, r.Intn(3), same))
		check(rules.Use(m, wild(r, trunks, 3), r.Intn(3), same))
		var g api.Graph
		for range r.Intn(5) {
			g.Nodes = append(g.Nodes, node(r.Intn(19), r.Intn(3)-1, []string{"", "1", "a"}[r.Intn(3)], []int{r.Intn(6) - 1, r.Intn(5)}[:r.Intn(3)]...))
		}
		check(rules.From(g, r.Intn(7)-1))
	}
}

// What is handed in is not changed, nor what lies behind the ends of its lists.
func TestNothingIsChanged(t *testing.T) {
	r := rand.New(rand.NewSource(128))
	for _, u := range samplesUsed(t, 1500) {
		m := api.Macro{Ellipsis: copied(u.m.Ellipsis), Literals: copiedAll(u.m.Literals)}
		for _, rule := range u.m.Rules {
			m.Rules = append(m.Rules, api.Rule{Pattern: copied(rule.Pattern), Template: copied(rule.Template)})
		}
		m.Rules = append(m.Rules, api.Rule{Pattern: id("behind")})[:len(m.Rules)]
		f, written := copied(u.form), copied(sampleMacro(r))
		all := func() string {
			out := trace(m.Ellipsis) + traceAll(m.Literals) + trace(f) + trace(written)
			for _, rule := range m.Rules[:len(m.Rules)+1] {
				out += trace(rule.Pattern) + trace(rule.Template)
			}
			return out
		}
		was := all()
		told, _ := rules.Use(m, f, 7, same)
		rules.Parse(written)
		rules.To(f)
		rules.Size(f)
		if all() != was {
			t.Fatalf("changed: %s of %s", showMacro(m), write(f))
		}
		shown := write(told) // and what was told stays, whatever is asked behind it
		rules.Use(m, f, 8, same)
		rules.Parse(written)
		if write(told) != shown {
			t.Fatalf("%s became %s", shown, write(told))
		}
	}
	g := graphOf(node(api.GPair, 0, "", 1, 2), node(api.GString, 0, "a"), node(api.GVector, 0, "", 1, 1))
	g.Nodes[1].Kids = []int{5}[:0]
	was := showGraph(g)
	s, err := rules.From(g, 0)
	if err != api.OK || write(s) != "(\"a\" . #(\"a\" \"a\"))" {
		t.Fatal(answer(s, err))
	}
	for _, k := range append(slices.Clone(s.Kids), s.Tail[0].Kids...) {
		_ = append(k.Atom.Kids, 77)
	}
	if showGraph(g) != was || g.Nodes[1].Kids[:1][0] != 5 {
		t.Error("the graph was changed")
	}
}

// Who writes to an answer's own lists does not write to another one.
func TestWhatIsToldIsOnesOwn(t *testing.T) {
	s := copied(piece(t, "(syntax-rules dots (l k) ((_ a b) (b a)))"))
	m, _ := rules.Parse(s)
	was := trace(s)
	_ = append(m.Literals, id("more"))
	m.Literals[0] = id("other")
	m.Rules = append(m.Rules, api.Rule{})
	if trace(s) != was {
		t.Error("what was parsed was changed")
	}
	f := copied(piece(t, "(m 1 2 3)"))
	was = trace(f)
	told, _ := rules.Use(macro(t, "(syntax-rules () ((_ . r) (x . r)))"), f, 7, same)
	_ = append(told.Kids, id("more"))
	told.Kids[1] = id("other")
	rest, _ := rules.Use(macro(t, "(syntax-rules () ((_ a . r) r))"), f, 7, same)
	_ = append(rest.Kids, id("more"))
	if trace(f) != was {
		t.Error("the form was changed")
	}
	pattern := id("x", 1)
	pattern.Stamps = append(pattern.Stamps, 5)[:1]
	one, _ := rules.Use(ruleOf(list(id("_")), pattern), piece(t, "(m)"), 7, same)
	two, _ := rules.Use(ruleOf(list(id("_")), pattern), piece(t, "(m)"), 8, same)
	if write(one) != "x~1~7" || write(two) != "x~1~8" || pattern.Stamps[:2][1] != 5 {
		t.Errorf("%s, %s, and behind it %d", write(one), write(two), pattern.Stamps[:2][1])
	}
}

// What is as great as may be is done in no time.
func TestGreatOnes(t *testing.T) {
	var names, kids []api.Syn
	for i := range 900 {
		names = append(names, id("v", i))
		kids = append(kids, list())
	}
	inner := list(list(names...), id("..."))
	m := ruleOf(list(id("_"), inner, id("...")), list(list(list(names[:50]...), id("...")), id("...")))
	s, err := rules.Use(m, list(append([]api.Syn{id("m")}, kids...)...), 7, same) // 900 variables that took nothing, 900 times
	if err != api.OK || rules.Size(s) != 901 {
		t.Errorf("%d, %d pieces", err, rules.Size(s))
	}
	var many []api.Rule
	for i := range 300 {
		many = append(many, api.Rule{Pattern: list(id("_"), id("a"), id("..."), number(i)), Template: id("x")})
	}
	m = api.Macro{Ellipsis: id("..."), Rules: many[:220]}
	s, err = rules.Use(m, form(1900), 7, same)
	if got := answer(s, err); got != "x~7" {
		t.Errorf("many rules: %s", got)
	}
	s, err = rules.Use(m, form(1900, number(-5)), 7, same)
	if got := answer(s, err); got != "ErrMatch" {
		t.Errorf("many rules: %s", got)
	}
}
