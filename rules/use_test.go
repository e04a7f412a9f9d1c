package rules_test

import (
	"slices"
	"testing"

	"athanor/api"
	"athanor/rules"
)

// Promise 12.3: Use.

func TestUseExamples(t *testing.T) {
	checkUse(t, "(syntax-rules () ((_ a b) (list b a)))", "(swap 1 2)", "(list~7 2 1)")
	checkUse(t, "(syntax-rules () ((_ (a b) ...) ((a ...) (b ...))))", "(m (1 2) (3 4))", "((1 3) (2 4))")
	checkUse(t, "(syntax-rules () ((_ (n v) ... b) ((lambda (n ...) b) v ...)))", "(m (a 1) (b 2) (+ a b))", "((lambda~7 (a b) (+ a b)) 1 2)")
}

func TestTheFirstRuleThatFits(t *testing.T) {
	m := "(syntax-rules (=>) ((_) none) ((_ a => f) (f a)) ((_ a) (one a)) ((_ 1 b) (first b)) ((_ a 1) (second a)) ((_ a b) (two a b)) ((_ . r) (all . r)))"
	for _, c := range [][2]string{
		{"(m)", "none~7"}, {"(m 1 => g)", "(g 1)"}, {"(m 1)", "(one~7 1)"}, {"(m 1 1)", "(first~7 1)"}, {"(m 2 1)", "(second~7 2)"}, {"(m 2 2)", "(two~7 2 2)"}, {"(m 1 =>~3 g)", "(all~7 1 =>~3 g)"}, {"(m . 5)", "(all~7 . 5)"}, {"(m 1 . 5)", "(all~7 1 . 5)"},
		{"(anything 3)", "(one~7 3)"}, {"(5 3)", "(one~7 3)"}, {"((m m) 3)", "(one~7 3)"}, // the form's first kid is not looked at
	} {
		checkUse(t, m, c[0], c[1])
	}
	checkUse(t, "(syntax-rules ())", "(m)", "ErrMatch")
	checkUse(t, "(syntax-rules () ((_ a) 1) ((_ a b c) 3))", "(m 1 2)", "ErrMatch")
	checkUse(t, "(syntax-rules () ((m a) 1))", "(other 5)", "1")
}

func TestLiterals(t *testing.T) {
	checkUse(t, "(syntax-rules (l) ((_ l) 1) ((_ a) a))", "(m l)", "1")
	checkUse(t, "(syntax-rules (l) ((_ l) 1) ((_ a) a))", "(m k)", "k")
	checkUse(t, "(syntax-rules (l) ((_ l) 1) ((_ a) a))", "(m l~1)", "l~1")
	checkUse(t, "(syntax-rules (l) ((_ l) 1) ((_ a) a))", "(m (l))", "(l)") // no identifier: same is not asked
	checkUse(t, "(syntax-rules (l) ((_ l) 1) ((_ a) a))", "(m 5)", "5")
	checkUse(t, "(syntax-rules (l) ((_ #(l l) . l) (l l)))", "(m #(l l) . l)", "(l~7 l~7)") // no variable: it stands as often as one likes, and gets the stamp
	checkUse(t, "(syntax-rules (l) ((_ l ...) yes) ((_ . a) no))", "(m l l l)", "yes~7")
	checkUse(t, "(syntax-rules (l) ((_ l ...) yes) ((_ . a) no))", "(m l k l)", "no~7")
	checkUse(t, "(syntax-rules (l~1) ((_ l) (v l)) ((_ l~1) 2))", "(m l)", "(v~7 l)") // l is a variable
	checkUse(t, "(syntax-rules (l~1) ((_ l~1) 2) ((_ l) (v l)))", "(m k)", "(v~7 k)")

	m := macro(t, "(syntax-rules (l k~3) ((_ (l x k~3) ...) (x ...)) ((_ . x) x))")
	for _, c := range []struct {
		what string
		same func(literal, it api.Syn) bool
		want string
	}{
		{"never", func(a, b api.Syn) bool { return false }, "((p 1 q) (r~5 2 s~6))"}, {"always", func(a, b api.Syn) bool { return true }, "(1 2)"},
		{"some", func(a, b api.Syn) bool { return a.Text == "k" || b.Text == "p" }, "((p 1 q) (r~5 2 s~6))"},
		{"the texts", func(a, b api.Syn) bool { return write(a)+write(b) != "lr" }, "(1 2)"}, {"the stamps", func(a, b api.Syn) bool { return write(a)+write(b) != "k~3s~6" }, "((p 1 q) (r~5 2 s~6))"},
	} {
		s, err := rules.Use(m, piece(t, "(m (p 1 q) (r~5 2 s~6))"), 7, c.same)
		if got := answer(s, err); got != c.want {
			t.Errorf("%s: %s, want %s", c.what, got, c.want)
		}
	}
	asked := map[string]int{}
	rules.Use(m, piece(t, "(m (p 1 q) (r~5 2 s~6))"), 7, func(literal, it api.Syn) bool {
		if literal.Kind != api.SId || it.Kind != api.SId || !has(m.Literals, literal) || !isPieceAlone(literal) || !isPieceAlone(it) {
			t.Errorf("asked of %s and %s", write(literal), write(it))
		}
		asked[write(literal)+" "+write(it)]++
		return true
	})
	for _, pair := range []string{"l p", "k~3 q", "l r~5", "k~3 s~6"} {
		if asked[pair] == 0 {
			t.Errorf("not asked: %s", pair)
		}
	}
}

func TestAnythingFits(t *testing.T) {
	for _, s := range []string{"x", "x~1", "5", "\"\"", "()", "(a . b)", "#(1)", "...", "_"} {
		checkUse(t, "(syntax-rules () ((_ _ _) yes))", "(m "+s+" "+s+")", "yes~7")
		checkUse(t, "(syntax-rules () ((_ a) (a a)))", "(m "+s+")", "("+s+" "+s+")")
		checkUse(t, "(syntax-rules () ((_ (_ ...) . _) yes))", "(m ("+s+" 1 "+s+") . "+s+")", "yes~7")
	}
}

func TestAtomsFitThemselves(t *testing.T) {
	all := atoms()
	for _, p := range all {
		m := api.Macro{Ellipsis: id("..."), Rules: []api.Rule{{Pattern: list(id("_"), p), Template: list(p, id("fits"))}}}
		for _, s := range append(slices.Clone(all), id("a"), id("1"), list(), list(p), vector(), vector(p)) {
			want := "ErrMatch"
			if s.Kind == api.SAtom && write(s) == write(p) {
				want = write(list(p, id("fits", 7)))
			}
			got, err := rules.Use(m, list(id("m"), s), 7, same)
			if answer(got, err) != want {
				t.Errorf("%s of %s: %s, want %s", write(p), write(s), answer(got, err), want)
			}
		}
	}
}

// checkOne holds what a rule with a pattern (in a list behind the macro's name) and a template tells of forms; forms and what is told stand in turn.
func checkOne(t *testing.T, pattern, template string, pairs ...string) {
	t.Helper()
	for i := 0; i < len(pairs); i += 2 {
		checkUse(t, "(syntax-rules (l) ((_ "+pattern+") "+template+"))", "(m "+pairs[i]+")", pairs[i+1])
	}
}

// refuses holds that a pattern fits none of some forms.
func refuses(t *testing.T, pattern string, forms ...string) {
	t.Helper()
	for _, form := range forms {
		checkUse(t, "(syntax-rules (l) ((_ "+pattern+") 1))", "(m "+form+")", "ErrMatch")
	}
}

func TestListsFitLists(t *testing.T) {
	checkOne(t, "()", "1", "()", "1")
	refuses(t, "()", "(1)", "5", "#()", "\"\"", "x", "(1 . 2)")
	checkOne(t, "(a)", "#(a)", "(1)", "#(1)", "((2 . 3))", "#((2 . 3))", "(())", "#(())")
	refuses(t, "(a)", "()", "1", "(1 2)", "(1 . 2)", "#(1)")
	checkOne(t, "(a b)", "#(b a)", "(1 2)", "#(2 1)")
	refuses(t, "(a b)", "()", "(1)", "(1 2 3)", "(1 . 2)", "(1 2 . 3)", "#(1 2)")
	checkOne(t, "(a . b)", "#(a b)", "(1)", "#(1 ())", "(1 2)", "#(1 (2))", "(1 2 3)", "#(1 (2 3))", "(1 . 2)", "#(1 2)", "(1 2 . 3)", "#(1 (2 . 3))", "(1 2 3 . 4)", "#(1 (2 3 . 4))", "(1 . #(2))", "#(1 #(2))")
	refuses(t, "(a . b)", "()", "1", "#(1 2)", "#(1)")
	checkOne(t, "(a b . c)", "#(a b c)", "(1 2)", "#(1 2 ())", "(1 2 . 3)", "#(1 2 3)", "(1 2 3)", "#(1 2 (3))", "(1 2 3 . 4)", "#(1 2 (3 . 4))")
	refuses(t, "(a b . c)", "()", "(1)", "(1 . 2)", "#(1 2)")
	checkOne(t, "(a . 5)", "a", "(1 . 5)", "1")
	refuses(t, "(a . 5)", "(1)", "(1 5)", "(1 . 6)", "(1 2 . 5)")
	checkOne(t, "(a . #(b))", "#(a b)", "(1 . #(2))", "#(1 2)")
	refuses(t, "(a . #(b))", "(1 #(2))", "(1 . 2)", "(1 . #())")
	checkOne(t, "(a . l)", "a", "(1 . l)", "1")
	refuses(t, "(a . l)", "(1)", "(1 l)", "(1 . k)", "(1 2 . l)")
	checkOne(t, "#()", "1", "#()", "1")
	refuses(t, "#()", "()", "#(1)", "5")
	checkOne(t, "#(a b)", "(b a)", "#(1 2)", "(2 1)")
	refuses(t, "#(a b)", "#(1)", "#(1 2 3)", "(1 2)", "#()")
	checkOne(t, "((a) #((b . c)))", "#(a b c)", "((1) #((2)))", "#(1 2 ())", "((1) #((2 . 3)))", "#(1 2 3)")
	refuses(t, "((a) #((b . c)))", "((1) #(2))", "(1 #((2)))", "((1) ((2)))", "((1) #((2)) 3)")
}

// The pattern as a whole is a list without its first kid, and so is the form.
func TestWholeFormsFit(t *testing.T) {
	for _, c := range [][3]string{
		{"(_)", "(m)", "x~7"}, {"(_)", "(m 1)", "ErrMatch"}, {"(_)", "(m . 1)", "ErrMatch"}, {"(_ . _)", "(m)", "x~7"}, {"(_ . _)", "(m . 1)", "x~7"}, {"(_ . _)", "(m 1 2 . 3)", "x~7"}, {"(_ . 5)", "(m . 5)", "x~7"}, {"(_ . 5)", "(m)", "ErrMatch"}, {"(_ . 5)", "(m 5)", "ErrMatch"},
		{"(_ a . 5)", "(m 1 . 5)", "x~7"}, {"(_ a ... . 5)", "(m . 5)", "x~7"}, {"(_ a ... . 5)", "(m 1 2 . 5)", "x~7"}, {"(_ a ... . 5)", "(m 1 2 5)", "ErrMatch"}, {"(_ a ...)", "(m . 5)", "ErrMatch"}, {"(_ a ...)", "(m 1 . 5)", "ErrMatch"},
	} {
		checkUse(t, "(syntax-rules () ("+c[0]+" x))", c[1], c[2])
	}
	for _, c := range [][2]string{{"(m)", "()"}, {"(m 1)", "(1)"}, {"(m . 1)", "1"}, {"(m 1 2 . 3)", "(1 2 . 3)"}, {"(m . #(1))", "#(1)"}} {
		checkUse(t, "(syntax-rules () ((_ . r) r))", c[0], c[1])
	}
}

func TestEllipsesTakeWhatIsOver(t *testing.T) {
	checkOne(t, "(a ...)", "#(a ...)", "()", "#()", "(1)", "#(1)", "(1 2 3)", "#(1 2 3)")
	refuses(t, "(a ...)", "(1 . 2)", "5", "#(1 2)")
	checkOne(t, "(a ... b)", "#(b (a ...))", "(1)", "#(1 ())", "(1 2)", "#(2 (1))", "(1 2 3 4)", "#(4 (1 2 3))")
	refuses(t, "(a ... b)", "()", "(1 . 2)")
	checkOne(t, "(x a ... b c)", "#(x b c (a ...))", "(1 2 3)", "#(1 2 3 ())", "(1 2 3 4)", "#(1 3 4 (2))", "(1 2 3 4 5)", "#(1 4 5 (2 3))")
	refuses(t, "(x a ... b c)", "()", "(1)", "(1 2)", "(1 2 3 . 4)", "(1 2 . 3)")
	checkOne(t, "(a ... . r)", "#(r (a ...))", "()", "#(() ())", "(1)", "#(() (1))", "(1 2)", "#(() (1 2))", "(1 . 2)", "#(2 (1))", "(1 2 . 3)", "#(3 (1 2))", "(1 . #(2))", "#(#(2) (1))") // the Tail alone
	refuses(t, "(a ... . r)", "5", "#(1)")
	checkOne(t, "(a ... b . r)", "#(r b (a ...))", "(1)", "#(() 1 ())", "(1 2 3)", "#(() 3 (1 2))", "(1 2 3 . 4)", "#(4 3 (1 2))", "(1 . 2)", "#(2 1 ())")
	refuses(t, "(a ... b . r)", "()", "5")
	checkOne(t, "(a ... . 5)", "(a ...)", "(1 2 . 5)", "(1 2)")
	refuses(t, "(a ... . 5)", "()", "(5)", "(1 5)", "(1 . 6)")
	checkOne(t, "#(x a ... b)", "#(b x a ...)", "#(1 2)", "#(2 1)", "#(1 2 3 4)", "#(4 1 2 3)")
	refuses(t, "#(x a ... b)", "#()", "#(1)", "(1 2)")
	checkOne(t, "(1 ...)", "yes", "()", "yes~7", "(1)", "yes~7", "(1 1 1)", "yes~7")
	refuses(t, "(1 ...)", "(2)", "(1 2)", "(1 1 2 1)", "(2 1)")
	checkOne(t, "((a b) ... c)", "#(c (b a) ...)", "(1)", "#(1)", "((1 2) 3)", "#(3 (2 1))", "((1 2) (3 4) (5 6))", "#((5 6) (2 1) (4 3))")
	refuses(t, "((a b) ... c)", "(1 2)", "((1 2) (3) 4)", "((1 2) 3 4)")
}

func TestNestedEllipses(t *testing.T) {
	checkOne(t, "((a ...) ...)", "#((a ...) ...)", "()", "#()", "(())", "#(())", "(() (1) (2 3))", "#(() (1) (2 3))")
	checkOne(t, "((a ...) ...)", "#(a ... ...)", "()", "#()", "(())", "#()", "(() () ())", "#()", "(() (1) (2 3) () (4))", "#(1 2 3 4)")
	checkOne(t, "((a b ...) ...)", "#((a ...) (b ... ...) (a b ...) ... ((b ... a) ...))", "((1) (2 3 4))", "#((1 2) (3 4) (1) (2 3 4) ((1) (3 4 2)))")
	checkOne(t, "(((a ...) ...) ...)", "#(a ... ... ...)", "(((1 2) (3)) () ((4)))", "#(1 2 3 4)")
	checkOne(t, "(((a ...) ...) ...)", "#((a ... ...) ...)", "(((1 2) (3)) () ((4)))", "#((1 2 3) () (4))")
	checkOne(t, "(((a ...) ...) ...)", "#((a ...) ... ...)", "(((1 2) (3)) () ((4)))", "#((1 2) (3) (4))")
	checkOne(t, "(((a ...) ...) ...)", "#(((a ...) ...) ...)", "(((1 2) (3)) () ((4)))", "#(((1 2) (3)) () ((4)))")
	checkOne(t, "#(#(a b ...) ... (c ...))", "((a ...) (b ... ...) c ...)", "#(#(1 2) #(3 4 5) (6 7))", "((1 3) (2 4 5) 6 7)")
}

// A variable that is not multiplied stands anywhere, and is told each time.
func TestVariablesThatAreNotMultiplied(t *testing.T) {
	checkOne(t, "(x a ...)", "#(x (x a x) ... x)", "(0)", "#(0 0)", "(0 1 2)", "#(0 (0 1 0) (0 2 0) 0)")
	checkOne(t, "(x (a ...) ...)", "#((x (a x) ...) ...)", "(0 (1 2) () (3))", "#((0 (1 0) (2 0)) (0) (0 (3 0)))")
	checkOne(t, "((x y) a ...)", "#((a y . x) ...)", "(((1) 2) 3 4)", "#((3 2 1) (4 2 1))")
}

func TestNumbersThatDiffer(t *testing.T) {
	two := "((a ...) (b ...))"
	checkOne(t, two, "#((a b) ...)", "(() ())", "#()", "((1) (2))", "#((1 2))", "((1 2) (3 4))", "#((1 3) (2 4))", "((1) ())", "ErrMatch", "(() (1))", "ErrMatch", "((1 2) (3))", "ErrMatch", "((1) (2 3))", "ErrMatch")
	checkOne(t, two, "#(a ... b ...)", "((1) ())", "#(1)", "((1) (2 3))", "#(1 2 3)") // apart they may differ
	checkOne(t, two, "#((a ...) ((b x) ...))", "((1) (2 3))", "#((1) ((2 x~7) (3 x~7)))")
	checkUse(t, "(syntax-rules () ((_ (a ...) (b ...)) ((a b) ...)) ((_ x y) fits))", "(m (1) ())", "ErrMatch") // the first rule that fits is taken, and no other
	nested := "((a ...) ... (b ...))"
	checkOne(t, nested, "#((b (a ...)) ...)", "((1 2) (3) (4 5))", "#((4 (1 2)) (5 (3)))", "((1 2) (3 4))", "ErrMatch", "((3))", "ErrMatch")
	deep := "(((a ...) ...) ((b ...) ...))"
	checkOne(t, deep, "#(((a b) ...) ...)", "(((1 2) (3)) ((4 5) (6)))", "#(((1 4) (2 5)) ((3 6)))", "(((1 2)) ((4 5) (6)))", "ErrMatch", "(((1 2) (3)) ((4) (5 6)))", "ErrMatch", "(((1 2) (3)) ((4 5) ()))", "ErrMatch")
	checkOne(t, deep, "#((a b) ... ...)", "(((1 2) (3)) ((4 5) (6)))", "#((1 4) (2 5) (3 6))", "(((1 2) (3)) ((4) (5 6)))", "ErrMatch", "(((1 2)) ((4) (5)))", "ErrMatch") // level by level, not in all
	three := "((a ...) (b ...) (c ...))"
	checkOne(t, three, "#((a b c) ...)", "((1) (2) (3))", "#((1 2 3))", "((1) (2) ())", "ErrMatch", "((1) () (3))", "ErrMatch", "(() (2) (3))", "ErrMatch")
	checkOne(t, "((a b) ... (c ...))", "#((a b c) ...)", "((1 2) (3))", "#((1 2 3))", "((1 2) (3 4))", "ErrMatch")
	// where nothing is told of what differs, nothing differs
	checkOne(t, "((a ...) ((b ...) (c ...)) ...)", "#(a ... ((b c) ...) ...)", "((1) ((2) (3)))", "#(1 ((2 3)))", "((1) ((2) (3 4)))", "ErrMatch", "((1))", "#(1)")
}

func TestWhatTemplatesBringIn(t *testing.T) {
	checkUse(t, "(syntax-rules () ((_ a) (b a b~3 \"s\" #(c) () . d)))", "(m x~1)", "(b~7 x~1 b~3~7 \"s\" #(c~7) () . d~7)")
	checkUse(t, "(syntax-rules () ((m a) (m _ a)))", "(m 1)", "(m~7 _~7 1)") // the pattern's first kid is no variable
	checkUse(t, "(syntax-rules () ((_ a) (a a~1)))", "(m 5)", "(5 a~1~7)")
	checkUse(t, "(syntax-rules () ((_ a~1) (a a~1)))", "(m 5)", "(a~7 5)")
	checkUse(t, "(syntax-rules () ((_) 5))", "(m)", "5")
	checkUse(t, "(syntax-rules () ((_) x))", "(m)", "x~7")
	checkUse(t, "(syntax-rules () ((_) ()))", "(m)", "()")
	for _, stamp := range []int{0, 1, -1, 1 << 62, -1 << 63} {
		s, err := rules.Use(macro(t, "(syntax-rules () ((_ a) (a b~2)))"), piece(t, "(m c~3)"), stamp, same)
		want := write(list(id("c", 3), id("b", 2, stamp)))
		if got := answer(s, err); got != want {
			t.Errorf("stamp %d: %s, want %s", stamp, got, want)
		}
	}
}

func TestEscapedEllipses(t *testing.T) {
	checkUse(t, "(syntax-rules () ((_) (... ...)))", "(m)", "...~7")
	checkUse(t, "(syntax-rules () ((_) (x (... ...))))", "(m)", "(x~7 ...~7)")
	checkUse(t, "(syntax-rules () ((_) (... (... ...))))", "(m)", "(...~7 ...~7)")
	checkUse(t, "(syntax-rules () ((_ a) (... (a ... . ...))))", "(m 1)", "(1 ...~7 . ...~7)")
	checkUse(t, "(syntax-rules () ((_ a) (... #(a ...))))", "(m 1)", "#(1 ...~7)")
	checkUse(t, "(syntax-rules () ((_ a) (... a)))", "(m (1))", "(1)")
	checkUse(t, "(syntax-rules () ((_ a ...) ((... (a ...)) ... x)))", "(m 1 2)", "((1 ...~7) (2 ...~7) x~7)")
	checkUse(t, "(syntax-rules () ((_ a ...) (a ... (... ...) a ...)))", "(m 1 2)", "(1 2 ...~7 1 2)") // behind it the ellipsis is one again
	checkUse(t, "(syntax-rules () ((_ a ...) ((... (a (... ...))) ...)))", "(m 1 2)", "((1 (...~7 ...~7)) (2 (...~7 ...~7)))")
	checkUse(t, "(syntax-rules dots () ((_ a dots) (a dots ... (dots dots))))", "(m 1 2)", "(1 2 ...~7 dots~7)")
	checkUse(t, "(syntax-rules () ((_ a b) (x (... (a . b)))))", "(m 1 (2))", "(x~7 (1 2))")
}

// A list that ends in a Tail that is a list is one list; one of which nothing is left but its Tail is that.
func TestTailsThatAreLists(t *testing.T) {
	for _, c := range [][2]string{{"(m 1)", "(x~7 . 1)"}, {"(m (1 2))", "(x~7 1 2)"}, {"(m ())", "(x~7)"}, {"(m (1 . 2))", "(x~7 1 . 2)"}, {"(m #(1))", "(x~7 . #(1))"}, {"(m y)", "(x~7 . y)"}, {"(m (1 (2) . (3)))", "(x~7 1 (2) 3)"}} {
		checkUse(t, "(syntax-rules () ((_ r) (x . r)))", c[0], c[1])
	}
	checkUse(t, "(syntax-rules () ((_ r ...) ((x . r) ...)))", "(m () (1) (1 . 2) 3)", "((x~7) (x~7 1) (x~7 1 . 2) (x~7 . 3))")
	ahead := "(syntax-rules () ((_ r a ...) (a ... . r)))"
	for _, c := range [][2]string{{"(m 5)", "5"}, {"(m 5 1)", "(1 . 5)"}, {"(m ())", "()"}, {"(m () 1)", "(1)"}, {"(m (2 3))", "(2 3)"}, {"(m (2 . 3))", "(2 . 3)"}, {"(m (2 3) 0 1)", "(0 1 2 3)"}, {"(m #(2))", "#(2)"}, {"(m x~1)", "x~1"}} {
		checkUse(t, ahead, c[0], c[1])
	}
	checkUse(t, "(syntax-rules () ((_ a ...) (a ... . x)))", "(m)", "x~7")
	checkUse(t, "(syntax-rules () ((_ a ...) (a ... . 5)))", "(m)", "5")
	checkUse(t, "(syntax-rules () ((_ (r a ...) ...) (0 (a ... . r) ...)))", "(m (1) (2 3) ((4) 5) (()))", "(0 1 (3 . 2) (5 4) ())")
}
