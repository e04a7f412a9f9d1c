package rules_test

import (
	"math/rand"
	"slices"
	"testing"

	"athanor/api"
	"athanor/rules"
)

// Promise 12.2: Parse.

// checkParse holds what Parse tells of a piece: a macro as it is shown, or nothing, if it is refused.
func checkParse(t *testing.T, s api.Syn, want string) {
	t.Helper()
	m, err := rules.Parse(s)
	switch {
	case want == "" && (err != api.ErrSyntax || !isNoMacro(m)):
		t.Errorf("Parse(%s): %d, %s, want ErrSyntax", write(s), err, showMacro(m))
	case want != "" && (err != api.OK || showMacro(m) != want):
		t.Errorf("Parse(%s): %d\n%s, want\n%s", write(s), err, showMacro(m), want)
	}
}

// mayBe and mayNotBe hold whether sources are macros.
func mayBe(t *testing.T, sources ...string) {
	t.Helper()
	for _, s := range sources {
		if _, err := rules.Parse(piece(t, s)); err != api.OK {
			t.Errorf("Parse(%s): %d", s, err)
		}
	}
}

func mayNotBe(t *testing.T, sources ...string) {
	t.Helper()
	for _, s := range sources {
		checkParse(t, piece(t, s), "")
	}
}

func TestParseTellsTheMacro(t *testing.T) {
	for _, c := range [][2]string{
		{"(syntax-rules ())", "... ()"}, {"(syntax-rules (a b~1 ...))", "... (a b~1 ...)"}, {"(syntax-rules dots ())", "dots ()"}, {"(syntax-rules dots~4~5 (x))", "dots~4~5 (x)"}, {"(syntax-rules ... ())", "... ()"}, {"(syntax-rules _ ())", "_ ()"},
		{"(syntax-rules () ((_ a b) (list b a)))", "... () (_ a b) -> (list b a)"}, {"(syntax-rules () ((_) 1) ((_ x . y) #(x y)))", "... () (_) -> 1 (_ x . y) -> #(x y)"},
		{"(anything ())", "... ()"}, {"(5 ())", "... ()"}, {"((no name) ())", "... ()"}, {"(() () ((_) x))", "... () (_) -> x"}, {"(... ())", "... ()"}, // the first kid is not looked at
		{"(syntax-rules (x x) ((x) x))", "... (x x) (x) -> x"}, {"(syntax-rules dots () ((dots dots~1) dots~1))", "dots () (dots dots~1) -> dots~1"},
	} {
		checkParse(t, piece(t, c[0]), c[1])
	}
}

func TestParseRefusesOtherForms(t *testing.T) {
	mayNotBe(t, "syntax-rules", "5", "()", "#()", "(syntax-rules)", "(syntax-rules dots)", "(syntax-rules dots dots)", "(syntax-rules dots dots ())", "(syntax-rules 5 ())", "(syntax-rules #() ())", "(syntax-rules \"...\" ())",
		"(syntax-rules . ...)", "(syntax-rules () . x)", "(syntax-rules () ((_) x) . y)", "(syntax-rules #())", "(syntax-rules dots #())", "#(syntax-rules ())", "#(syntax-rules () ((_) x))",
		"(syntax-rules (5))", "(syntax-rules (()))", "(syntax-rules ((a)))", "(syntax-rules (a \"b\"))", "(syntax-rules (a . b))", "(syntax-rules (a #(b)))", "(syntax-rules dots (a . b))",
		"(syntax-rules () x)", "(syntax-rules () 5)", "(syntax-rules () ())", "(syntax-rules () ((_)))", "(syntax-rules () ((_) x y))", "(syntax-rules () ((_) . x))", "(syntax-rules () ((_) x . y))", "(syntax-rules () #((_) x))", "(syntax-rules () ((_) x) z)", "(syntax-rules () z ((_) x))",
		"(syntax-rules () (_ x))", "(syntax-rules () (() x))", "(syntax-rules () (#(_) x))", "(syntax-rules () (5 x))", "(syntax-rules () ((5) x))", "(syntax-rules () (((_)) x))", "(syntax-rules () ((#(_)) x))", "(syntax-rules () ((\"_\" a) x))", "(syntax-rules () ((_) x) ((5) x))")
	for _, bad := range noPieces() {
		for _, s := range around(bad) {
			if isPieceAlone(s) && sizeOf(s) <= api.MaxForms {
				t.Fatal(write(s))
			}
			checkParse(t, list(s, list()), "")
			checkParse(t, list(id("syntax-rules"), list(), list(list(id("_"), s), id("x"))), "")
			checkParse(t, list(id("syntax-rules"), list(), list(list(id("_")), s)), "")
		}
	}
}

func TestParsePatterns(t *testing.T) {
	mayBe(t,
		"(syntax-rules () ((_ a b (c . d) #(e f) . g) x))", "(syntax-rules () ((_ _ _ (_ . _) #(_ _)) x))", "(syntax-rules () ((_ 1 \"a\" #\\a #t #u8(1) ()) x))", "(syntax-rules (l) ((_ l l (l) . l) x))", "(syntax-rules (_) ((_ _ _) x))",
		"(syntax-rules () ((a a) a))", "(syntax-rules () ((... a) a))", "(syntax-rules () ((... a ...) (a ...)))", "(syntax-rules dots () ((dots) x))", // the first kid is not looked at
		"(syntax-rules () ((_ a a~1 a~2 a~1~2 a~2~1 a~12) x))", "(syntax-rules () ((_ _~1) x))",
		"(syntax-rules () ((_ a ...) x))", "(syntax-rules () ((_ a ... b c . d) x))", "(syntax-rules () ((_ (a ...) ...) x))", "(syntax-rules () ((_ #(a ... b) ...) x))", "(syntax-rules () ((_ (a ...) (b ...) c ...) x))", "(syntax-rules () ((_ 1 ...) x))", "(syntax-rules () ((_ _ ...) x))", "(syntax-rules () ((_ () ...) x))",
		"(syntax-rules (l) ((_ l ...) x))", "(syntax-rules () ((_ . (a ...)) x))", "(syntax-rules () ((_ (((a ...) ...) ...) ...) x))", "(syntax-rules () ((_ (a ... . b) ...) x))",
		"(syntax-rules dots () ((_ a dots ... ) x))", "(syntax-rules ...~1 () ((_ a ...~1 ...) x))",
		"(syntax-rules (...) ((_ ... ... (... ...) . ...) x))", "(syntax-rules dots (dots) ((_ dots dots) x))", "(syntax-rules (_ ...) ((_ _ ... _) x))")
	mayNotBe(t,
		"(syntax-rules () ((_ a a) x))", "(syntax-rules () ((_ a (a)) x))", "(syntax-rules () ((_ a . a) x))", "(syntax-rules () ((_ #(a) a) x))", "(syntax-rules () ((_ a~1 a~1) x))", "(syntax-rules () ((_ a ... a) x))", "(syntax-rules () ((_ (a ...) a ...) x))", "(syntax-rules () ((_ _~1 _~1) x))", "(syntax-rules () ((_ a b) x) ((_ a a) x))",
		"(syntax-rules () ((_ ...) x))", "(syntax-rules () ((_ ... a) x))", "(syntax-rules () ((_ (...)) x))", "(syntax-rules () ((_ (... a)) x))", "(syntax-rules () ((_ (... ...)) x))", "(syntax-rules () ((_ #(...)) x))", "(syntax-rules () ((_ #(... a)) x))", "(syntax-rules () ((... ...) x))", "(syntax-rules () ((_ ... ...) x))",
		"(syntax-rules () ((_ a ... ...) x))", "(syntax-rules () ((_ a ... b ...) x))", "(syntax-rules () ((_ a ... b c ...) x))", "(syntax-rules () ((_ #(a ... b ...)) x))", "(syntax-rules () ((_ (a ... ...)) x))", "(syntax-rules () ((_ #(a ... ...)) x))",
		"(syntax-rules () ((_ . ...) x))", "(syntax-rules () ((_ a . ...) x))", "(syntax-rules () ((_ a ... . ...) x))", "(syntax-rules () ((_ (a . ...)) x))", "(syntax-rules () ((_ #((a . ...))) x))",
		"(syntax-rules dots () ((_ a dots dots) x))", "(syntax-rules dots () ((_ dots) x))", "(syntax-rules ...~1 () ((_ ...~1) x))", "(syntax-rules dots () ((_ ... ...) x))")
}

func TestParseTemplates(t *testing.T) {
	mayBe(t,
		"(syntax-rules () ((_) x))", "(syntax-rules () ((_) _))", "(syntax-rules () ((_) (1 \"a\" #(x (y)) . z)))", "(syntax-rules () ((_ a) (a a (a . a) #(a))))", "(syntax-rules () ((_ a) b))",
		"(syntax-rules () ((_ a ...) (a ...)))", "(syntax-rules () ((_ a ...) #(a ...)))", "(syntax-rules () ((_ a ...) (x a ... a ... . y)))", "(syntax-rules () ((_ a ... b ) ((a b) ...)))", "(syntax-rules () ((_ (a b) ...) ((a ...) (b ...) (a b) ...)))", "(syntax-rules () ((_ (a ...) b ...) ((a b) ...)))",
		"(syntax-rules () ((_ (a ...) ...) ((a ...) ...)))", "(syntax-rules () ((_ (a ...) ...) (a ... ...)))", "(syntax-rules () ((_ (a ...) ...) #(a ... ... b)))", "(syntax-rules () ((_ (a b ...) ...) ((a b ...) ...)))", "(syntax-rules () ((_ c (a b ...) ...) ((c a (c b) ...) ...)))",
		"(syntax-rules () ((_ (((a ...) ...) ...) ...) (a ... ... ... ...)))", "(syntax-rules () ((_ (((a ...) ...) ...) ...) (((a ... ...) ...) ...)))", "(syntax-rules () ((_ ((a ...) ...) ...) (((a ...) ... ) ... )))", "(syntax-rules () ((_ ((a ...) ...) ...) ((a ... ...) ...)))", "(syntax-rules () ((_ ((a ...) ...) ...) ((a ...) ... ...)))",
		"(syntax-rules () ((_ a ...) ((x . a) ...)))", "(syntax-rules () ((_ a ... . b) ((a . b) ... . b)))", "(syntax-rules () ((_ #(a ...)) (a ...)))",
		"(syntax-rules () ((_) (... ...)))", "(syntax-rules () ((_) (x (... ...))))", "(syntax-rules () ((_) (... (... ...))))", "(syntax-rules () ((_) (... (a ... b ... . ...))))", "(syntax-rules () ((_) (... #(... ...))))", "(syntax-rules () ((_ a) (... (a ...))))", "(syntax-rules () ((_ a ...) ((... a) ...)))", "(syntax-rules () ((_ a ...) ((... (a ...)) ...)))", "(syntax-rules () ((_ a ...) (x (... ...) a ...)))",
		"(syntax-rules () ((_ a ...) ((a (... ...)) ...)))", "(syntax-rules () ((_ (a ...) ...) ((... a) ... ...)))", "(syntax-rules dots () ((_ a dots) (a dots ...)))", "(syntax-rules dots () ((_) (dots dots)))", "(syntax-rules dots () ((_) ...))", "(syntax-rules () ((_) ...~1))", "(syntax-rules () ((_) (...~1 a)))",
		"(syntax-rules (...) ((_ a) (... a)))", "(syntax-rules (...) ((_) ...))", "(syntax-rules (...) ((_) (x ... ... . ...)))", "(syntax-rules (...) ((_ a ...) (... a a ...)))")
	mayNotBe(t,
		"(syntax-rules () ((_) ...))", "(syntax-rules () ((_) (...)))", "(syntax-rules () ((_) #(...)))", "(syntax-rules () ((_) (... a b)))", "(syntax-rules () ((_) #(... a)))", "(syntax-rules () ((_) #(... ...)))", "(syntax-rules () ((_) (... . a)))", "(syntax-rules () ((_) (... a . b)))", "(syntax-rules () ((_) (a . ...)))", "(syntax-rules () ((_ a ...) (a ... . ...)))", "(syntax-rules () ((_) (... ... ...)))", "(syntax-rules () ((_ a ...) (... a ...)))",
		"(syntax-rules () ((_) (x ...)))", "(syntax-rules () ((_) (1 ...)))", "(syntax-rules () ((_ a) (a ...)))", "(syntax-rules () ((_ a) ((a b) ...)))", "(syntax-rules () ((_ a) #(a ...)))", "(syntax-rules () ((_) (() ...)))", "(syntax-rules () ((_ a ...) (x ... a ...)))", "(syntax-rules () ((_ a ...) ((x ...) a ...)))", "(syntax-rules () ((_ a ...) ((a (x ...)) ...)))", "(syntax-rules () ((_ a ...) ((... ...) ...)))", "(syntax-rules () ((_ a b ...) ((a ...) b ...)))", "(syntax-rules () ((_ a b ...) ((a ... b) ...)))", "(syntax-rules (l) ((_ l ...) (l ...)))", "(syntax-rules () ((_ _ ...) (_ ...)))",
		"(syntax-rules () ((_ a ...) a))", "(syntax-rules () ((_ a ...) (a)))", "(syntax-rules () ((_ a ...) (a ... a)))", "(syntax-rules () ((_ a ...) (x . a)))", "(syntax-rules () ((_ a ...) #(a)))", "(syntax-rules () ((_ a ...) (a ... ...)))", "(syntax-rules () ((_ a ...) ((a ...) ...)))", "(syntax-rules () ((_ a ...) #((a ...) ...)))", "(syntax-rules () ((_ (a ...) ...) (a ...)))", "(syntax-rules () ((_ (a ...) ...) a))", "(syntax-rules () ((_ (a ...) ...) ((a) ...)))", "(syntax-rules () ((_ (a ...) ...) (a ... ... ...)))", "(syntax-rules () ((_ (a b ...) ...) (a ... b ...)))", "(syntax-rules () ((_ (a b ...) ...) ((a b) ... ...)))", "(syntax-rules () ((_ (a b ...) ...) ((a b) ...)))", "(syntax-rules () ((_ (a b ...) ...) (((a b) ...) ...)))",
		"(syntax-rules () ((_ a ...) (... a)))", "(syntax-rules () ((_ a ...) (... (a ...))))", "(syntax-rules () ((_ a ...) ((... (a ...)) ... ...)))", "(syntax-rules () ((_ a ...) (... (... a))))", "(syntax-rules dots () ((_ a dots) (a ...)))", "(syntax-rules dots () ((_) dots))", "(syntax-rules () ((_) x) ((_) ...))", "(syntax-rules () ((_) ...) ((_) x))")
}

// Which stamps an ellipsis and _ have counts.
func TestParseStamps(t *testing.T) {
	checkUse(t, "(syntax-rules () ((_ a ...~1) (a ...~1)))", "(m 1 2)", "(1 2)")                   // it is a variable
	checkUse(t, "(syntax-rules ...~1 () ((_ a ...~1 ...) (a ...~1 ...)))", "(m 1 2 3)", "(1 2 3)") // ... is one
	checkUse(t, "(syntax-rules ...~1 () ((_ a ...) (a ...)))", "(m 1 2)", "(1 2)")                 // both are
	checkUse(t, "(syntax-rules ...~1 () ((_ a ...) (a ...)))", "(m 1 2 3)", "ErrMatch")            // so it multiplies nothing
	checkUse(t, "(syntax-rules () ((_ _ _~1) (_ _~1)))", "(m 1 2)", "(_~7 2)")                     // _ takes, and is no variable; _ with a stamp is one
	checkUse(t, "(syntax-rules (_~1) ((_ _ _~1) 1) ((_ a b) 2))", "(m 1 _)", "1")                  // or a literal
	checkUse(t, "(syntax-rules (_) ((_ _) 1) ((_ a) 2))", "(m 5)", "2")                            // and so may _ be
	checkUse(t, "(syntax-rules (...) ((_ a ...) (... a ...)))", "(m 1 ...)", "(...~7 1 ...~7)")    // or an ellipsis
	checkUse(t, "(syntax-rules (...) ((_ a ...) (... a)))", "(m 1 2)", "ErrMatch")                 // which is then just a literal
	checkUse(t, "(syntax-rules _ () ((_ a _) (x a _)))", "(m 1 2 3)", "(x~7 1 2 3)")               // one that is told is one, be it _
	checkUse(t, "(syntax-rules dots (...) ((_ a dots ...) (a dots ...)))", "(m 1 2 ...)", "(1 2 ...~7)")
}

func TestParseAtItsLimit(t *testing.T) {
	const most = api.MaxForms
	sized := func(n int) api.Syn { // a macro of so many pieces, all of them variables
		kids := []api.Syn{id("m")}
		for i := range n - 7 { // the list, syntax-rules, (), the rule, its pattern, the template and m
			kids = append(kids, id("a", i))
		}
		return list(id("syntax-rules"), list(), list(list(kids...), id("x")))
	}
	for _, n := range []int{7, 100, most - 1, most} {
		s := sized(n)
		if m, err := rules.Parse(s); err != api.OK || sizeOf(s) != n || len(m.Rules) != 1 {
			t.Errorf("%d pieces: %d", n, err)
		}
	}
	for _, n := range []int{most + 1, most + 2, 3 * most} {
		if m, err := rules.Parse(sized(n)); err != api.ErrSyntax || !isNoMacro(m) {
			t.Errorf("%d pieces: %d", n, err)
		}
	}
	dots := func(n int) []api.Syn { return row(n, id("...")) }
	nested := id("a")
	for range 600 { // lists within one another, each with an ellipsis
		nested = list(nested, id("..."))
	}
	written := func(pattern, template api.Syn) api.Syn {
		return list(id("syntax-rules"), list(), list(list(id("_"), pattern), template))
	}
	for n, want := range map[int]api.Errno{599: api.ErrSyntax, 600: api.OK, 601: api.ErrSyntax} {
		flat := list(append([]api.Syn{id("a")}, dots(n)...)...)
		if _, err := rules.Parse(written(nested, flat)); err != want {
			t.Errorf("%d ellipses: %d", n, err)
		}
	}
	if _, err := rules.Parse(written(nested, nested)); err != api.ErrSyntax { // too great
		t.Errorf("%d pieces: %d", sizeOf(written(nested, nested)), err)
	}
}

// sampleMacro is a piece that is a macro, or nearly one.
func sampleMacro(r *rand.Rand) api.Syn {
	names := []string{"a", "b", "c", "...", "_", "l"}
	atMost := 0
	var some func(depth int, pattern bool) api.Syn
	some = func(depth int, pattern bool) api.Syn {
		atMost++
		if depth == 0 || r.Intn(3) == 0 || atMost > 14 {
			if r.Intn(8) == 0 {
				return number(r.Intn(2))
			}
			return id(names[r.Intn(len(names))], [][]int{nil, nil, nil, nil, nil, nil, {1}}[r.Intn(7)]...)
		}
		var kids []api.Syn
		for range r.Intn(4) {
			kids = append(kids, some(depth-1, pattern))
			for r.Intn(3) == 0 && len(kids) < 6 {
				kids = append(kids, id("..."))
				if pattern {
					break
				}
			}
		}
		switch {
		case r.Intn(5) == 0:
			return vector(kids...)
		case r.Intn(5) == 0 && len(kids) > 0:
			return dotted(id(names[r.Intn(len(names))]), kids...)
		case r.Intn(8) == 0 && !pattern:
			return list(id("..."), some(depth-1, pattern))
		}
		return list(kids...)
	}
	rest := []api.Syn{id("syntax-rules")}
	if r.Intn(6) == 0 {
		rest = append(rest, id([]string{"...", "c", "_"}[r.Intn(3)]))
	}
	rest = append(rest, list([][]api.Syn{nil, nil, {id("l")}, {id("l"), id("...")}, {id("_")}}[r.Intn(5)]...))
	for range 1 + r.Intn(2) {
		atMost = 0
		pattern := some(3, true)
		if pattern.Kind == api.SList {
			pattern.Kids = append([]api.Syn{id("_")}, pattern.Kids...)
		}
		atMost = 0
		rest = append(rest, list(pattern, some(3, false)))
	}
	return list(rest...)
}

func TestParseByTheWords(t *testing.T) {
	r := rand.New(rand.NewSource(123))
	good := 0
	for range 60000 {
		s := sampleMacro(r)
		m, ok := parseOf(s)
		want := ""
		if ok {
			want = showMacro(m)
			good++
		}
		checkParse(t, s, want)
		if t.Failed() {
			return
		}
	}
	if good < 5000 {
		t.Errorf("%d macros of 60000", good)
	}
}

// smallPieces are all pieces of just so many pieces whose identifiers and atoms are some of few.
func smallPieces(size int, ones ...api.Syn) []api.Syn {
	rows := map[int][][]api.Syn{0: {nil}} // rows of pieces, by how many pieces there are in them
	all := map[int][]api.Syn{1: append(slices.Clone(ones), list())}
	var row func(n int) [][]api.Syn
	var of func(n int) []api.Syn
	row = func(n int) [][]api.Syn {
		if out, ok := rows[n]; ok {
			return out
		}
		var out [][]api.Syn
		for last := 1; last <= n; last++ {
			for _, ahead := range row(n - last) {
				for _, s := range of(last) {
					out = append(out, append(slices.Clone(ahead), s))
				}
			}
		}
		rows[n] = out
		return out
	}
	of = func(n int) []api.Syn {
		if out, ok := all[n]; ok {
			return out
		}
		var out []api.Syn
		for _, kids := range row(n - 1) {
			out = append(out, list(kids...))
		}
		for _, kids := range row(n - 2) {
			for _, s := range ones {
				if len(kids) > 0 {
					out = append(out, dotted(s, kids...))
				}
			}
		}
		all[n] = out
		return out
	}
	return of(size)
}

// All small patterns, and all small templates.
func TestParseOfAllSmallOnes(t *testing.T) {
	a, b, dots := id("a"), id("b"), id("...")
	check := func(pattern, template api.Syn) {
		s := list(id("syntax-rules"), list(id("l")), list(pattern, template))
		m, ok := parseOf(s)
		want := ""
		if ok {
			want = showMacro(m)
		}
		checkParse(t, s, want)
	}
	for size := 2; size <= 6; size++ {
		for _, p := range smallPieces(size, a, b, dots, id("l")) {
			check(p, id("x"))
		}
	}
	head := id("_")
	for _, pattern := range []api.Syn{list(head, a, b), list(head, a, dots), list(head, list(a, b, dots), dots), list(head, a, b, dots), list(head, list(a, dots), b, dots), list(head, list(a, dots), dots)} {
		for size := 1; size <= 6; size++ {
			for _, template := range smallPieces(size, a, b, dots) {
				check(pattern, template)
			}
		}
	}
}
