package rules_test

import (
	"testing"

	"athanor/api"
	"athanor/rules"
)

// Promise 12.3: results of just MaxForms pieces, and of more.

// checkSize holds how many pieces Use tells; too many are ErrFull.
func checkSize(t *testing.T, what string, m api.Macro, form api.Syn, want int) {
	t.Helper()
	s, err := rules.Use(m, form, 7, same)
	if want > api.MaxForms {
		if answer(s, err) != "ErrFull" {
			t.Errorf("%s: error %d and %d pieces, want ErrFull", what, err, sizeOf(s))
		}
		return
	}
	if err != api.OK || sizeOf(s) != want || rules.Size(s) != want {
		t.Errorf("%s: error %d and %d pieces, want %d", what, err, sizeOf(s), want)
	}
	if wanted, _ := useOf(m, form, 7, same); write(wanted) != write(s) {
		t.Errorf("%s: another piece", what)
	}
}

// form is a use of a macro with so many atoms ahead of other pieces.
func form(n int, others ...api.Syn) api.Syn {
	return list(append(append([]api.Syn{id("m")}, row(n, number(1))...), others...)...)
}

func TestWhatIsToldAtItsLimit(t *testing.T) {
	const most = api.MaxForms
	for _, n := range []int{0, 1, most/2 - 2, most/2 - 1, most / 2, most/2 + 1, most - 2} {
		f := form(n)
		checkSize(t, "each once", macro(t, "(syntax-rules () ((_ a ...) (a ...)))"), f, 1+n)
		checkSize(t, "one more", macro(t, "(syntax-rules () ((_ a ...) (x a ...)))"), f, 2+n)
		checkSize(t, "two more", macro(t, "(syntax-rules () ((_ a ...) (x a ... . y)))"), f, 3+n)
		checkSize(t, "a vector", macro(t, "(syntax-rules () ((_ a ...) #(x a ...)))"), f, 2+n)
		checkSize(t, "a vector of one more", macro(t, "(syntax-rules () ((_ a ...) #(x y a ...)))"), f, 3+n)
		checkSize(t, "a vector in a list", macro(t, "(syntax-rules () ((_ a ...) (#() #(a ...))))"), f, 3+n)
		checkSize(t, "each twice", macro(t, "(syntax-rules () ((_ a ...) (a ... a ...)))"), f, 1+2*n)
		checkSize(t, "each twice, and one more", macro(t, "(syntax-rules () ((_ a ...) #(a ... a ... ())))"), f, 2+2*n)
		checkSize(t, "each with two others", macro(t, "(syntax-rules () ((_ a ...) ((a x) ...)))"), f, 1+3*n)
		checkSize(t, "a rest", macro(t, "(syntax-rules () ((_ . r) r))"), f, 1+n)
		checkSize(t, "a rest in a list", macro(t, "(syntax-rules () ((_ . r) (r)))"), f, 2+n)
		checkSize(t, "a rest behind something", macro(t, "(syntax-rules () ((_ . r) (x . r)))"), f, 2+n) // one list: it counts once
		checkSize(t, "a rest behind two", macro(t, "(syntax-rules () ((_ . r) (x y . r)))"), f, 3+n)
		checkSize(t, "two rests", macro(t, "(syntax-rules () ((_ . r) (r r)))"), f, 3+2*n)
		checkSize(t, "two rests, one behind the other", macro(t, "(syntax-rules () ((_ . r) (r . r)))"), f, 2+2*n)
		checkSize(t, "nothing ahead of a rest", macro(t, "(syntax-rules () ((_ x ... . r) (x ... . 5)))"), f, map[bool]int{true: 1, false: 2 + n}[n == 0])
		checkSize(t, "a constant", macro(t, "(syntax-rules () ((_ . r) x))"), f, 1)
	}
	checkSize(t, "with a Tail", macro(t, "(syntax-rules () ((_ . r) (x . r)))"), dotted(number(2), form(most-3).Kids...), 1+1+most-3+1)
	checkSize(t, "with a Tail and more", macro(t, "(syntax-rules () ((_ . r) (x y . r)))"), dotted(number(2), form(most-3).Kids...), most+1)
	checkSize(t, "with a Tail, but no more", macro(t, "(syntax-rules () ((_ . r) (x y . r)))"), dotted(number(2), form(most-4).Kids...), most)
}

// What is told is multiplied, and would be far more than there is room for.
func TestFarTooMuch(t *testing.T) {
	const most = api.MaxForms
	big := list(row(most-10, number(1))...)
	checkSize(t, "twice", macro(t, "(syntax-rules () ((_ a) (a a)))"), list(id("m"), big), most+1)
	var many []api.Syn
	for range 900 {
		many = append(many, id("a"))
	}
	m := api.Macro{Ellipsis: id("..."), Rules: []api.Rule{{Pattern: list(id("_"), id("a")), Template: list(many...)}}}
	checkSize(t, "900 times", m, list(id("m"), big), most+1)
	m.Rules[0] = api.Rule{Pattern: list(id("_"), id("x"), id("a"), id("...")), Template: list(list(many...), id("..."))}
	checkSize(t, "900 times each", m, form(most-2), most+1)
	nested := id("x") // an ellipsis within each other one, and something that is told in each
	pattern := id("x")
	for range 300 {
		pattern = list(pattern, id("..."))
		nested = list(id("k"), nested, id("..."))
	}
	m.Rules[0] = api.Rule{Pattern: list(id("_"), pattern), Template: nested}
	s := form(1600).Kids[1:]
	inner := list(s...)
	for range 299 {
		inner = list(inner)
	}
	checkSize(t, "one within another", m, list(id("m"), inner), most+1)
}

// Numbers that differ are told, be the pieces too many or not, and wherever they stand.
func TestNumbersThatDifferCountMore(t *testing.T) {
	big := list(row(990, number(1))...)
	for _, template := range []string{"(x x x (a b) ...)", "((a b) ... x x x)", "(x (x (x (a b) ...)))", "((x (a b) ...) x x)"} {
		m := macro(t, "(syntax-rules () ((_ x (a ...) (b ...)) "+template+"))")
		for source, want := range map[string]string{"(m 0 (1) (2 3))": "ErrMatch", "(m 0 (1) ())": "ErrMatch"} {
			f := piece(t, source)
			f.Kids[1] = big
			s, err := rules.Use(m, f, 7, same)
			if got := answer(s, err); got != want {
				t.Errorf("%s of %s: %.100s", template, source, got)
			}
		}
		f := piece(t, "(m 0 (1) (2))")
		f.Kids[1] = big
		if s, err := rules.Use(m, f, 7, same); answer(s, err) != "ErrFull" {
			t.Errorf("%s: %.100s", template, answer(s, err))
		}
	}
	deep := macro(t, "(syntax-rules () ((_ x ((a ...) (b ...)) ...) (x x x ((a b) ...) ...)))")
	f := piece(t, "(m 0 ((1) (2)) ((1 2) (3 4)) ((1) ()))")
	f.Kids[1] = big
	if s, err := rules.Use(deep, f, 7, same); answer(s, err) != "ErrMatch" {
		t.Errorf("%.100s", answer(s, err))
	}
}

// Forms are at most MaxForms pieces, and so are macros, their ellipsis named.
func TestWhatIsUsedAtItsLimit(t *testing.T) {
	const most = api.MaxForms
	m := macro(t, "(syntax-rules () ((_ . r) 5))")
	for n, want := range map[int]string{most - 2: "5", most - 1: "ErrSyntax", most: "ErrSyntax", 5 * most: "ErrSyntax"} {
		if s, err := rules.Use(m, form(n), 7, same); answer(s, err) != want {
			t.Errorf("a form of %d: %s", n+2, answer(s, err))
		}
	}
	for n, want := range map[int]string{most: "5", most + 1: "ErrSyntax"} {
		if s, err := rules.Use(m, list(list(row(n-2, id("x"))...)), 7, same); answer(s, err) != want {
			t.Errorf("a form of %d, all in its first kid: %s", n, answer(s, err))
		}
	}
	whole := func(n int) api.Syn { // a macro of so many pieces, without an ellipsis that is named
		return list(id("syntax-rules"), list(row(n-8, id("l"))...), list(list(id("m"), id("a")), id("a")))
	}
	for n, want := range map[int]string{most - 1: "1", most: "ErrSyntax"} {
		m, err := rules.Parse(whole(n))
		if err != api.OK || sizeOf(whole(n)) != n {
			t.Fatalf("Parse of %d pieces: %d", n, err)
		}
		if s, err := rules.Use(m, form(1), 7, same); answer(s, err) != want {
			t.Errorf("a macro of %d pieces: %s", n, answer(s, err))
		}
	}
}
