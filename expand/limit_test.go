package expand_test

import (
	"slices"
	"strconv"
	"strings"
	"testing"

	"athanor/api"
	"athanor/expand"
	"athanor/rules"
)

// Promise 13.1: limits, each of which is itself allowed.

// checkFits holds whether a form is expanded, or ErrSyntax.
func checkFits(t *testing.T, what string, w world, s api.Syn, fits bool) api.Top {
	t.Helper()
	top, err := expand.Top(s, w.look)
	if (err == api.OK) != fits || err != api.OK && answer(top, err) != "ErrSyntax" {
		t.Errorf("%s: error %d, of %d pieces", what, err, rules.Size(s))
	}
	return top
}

// row is pieces that are all the same.
func row(n int, s api.Syn) []api.Syn { return slices.Repeat([]api.Syn{s}, n) }

func TestFormsThatAreTooGreat(t *testing.T) {
	w := plain()
	for n := api.MaxForms - 3; n <= api.MaxForms+1; n++ {
		checkFits(t, "begin", w, call("begin", row(n-2, number(1))...), n <= api.MaxForms)
		checkFits(t, "quote", w, call("quote", list(row(n-3, number(1))...)), n <= api.MaxForms)
		checkFits(t, "define-syntax", w, call("define-syntax", id("m"), call("syntax-rules", list(row(n-6, id("l"))...))), n <= api.MaxForms)
		deep := list()
		for range n - 3 {
			deep = list(deep)
		}
		checkFits(t, "deep", w, call("quote", deep), n <= api.MaxForms)
		deep = number(1)
		for range (n - 1) / 2 {
			deep = call("begin", deep)
		}
		checkFits(t, "begins", w, call("list", deep), 2+rules.Size(deep) <= api.MaxForms)
	}
}

// uses are so many uses of a macro within one another.
func uses(n int) api.Syn {
	s := number(1)
	for range n {
		s = call("same", s)
	}
	return s
}

func TestUsesOfMacros(t *testing.T) {
	w := plain().
		macro(0, "same", "(syntax-rules () ((_ x) x))").
		macro(0, "again", "(syntax-rules () ((_ . x) (again . x)))").
		macro(0, "count", "(syntax-rules () ((_) 1) ((_ a . r) (count . r)))").
		macro(0, "def", "(syntax-rules () ((_ n e) (define n e)))").
		macro(0, "nothing", "(syntax-rules () ((_) (begin)))")
	for n := api.MaxMacros - 2; n <= api.MaxMacros+2; n++ {
		fits := n <= api.MaxMacros
		checkFits(t, "within one another", w, uses(n), fits)
		checkFits(t, "within something else", w, call("if", uses(n/2), uses(n-n/2)), fits)
		checkFits(t, "one behind the other", w, call("list", row(n, call("same", number(1)))...), fits)
		checkFits(t, "of itself", w, call("count", row(n-1, number(1))...), fits)
		checkFits(t, "in front of a body", w, call("lambda", append([]api.Syn{list()}, append(row(n, call("nothing")), number(1))...)...), fits)
		checkFits(t, "definitions", w, call("def", id("x"), uses(n-1)), fits)
		checkFits(t, "of a begin, in which they do not count", w, call("begin", row(n, call("same", number(1)))...), true)
		checkFits(t, "quoted, where they do not count", w, call("quote", uses(n)), true)
		checkFits(t, "in a macro, where they do not count", w, call("define-syntax", id("m"), call("syntax-rules", list(), list(list(id("_")), uses(n)))), true)
		checkFits(t, "where the name is a local", w, call("lambda", list(id("same")), uses(n)), true)
	}
	refusesAll(t, w, "(again)", "(again 1 2 3)", "(list (again . 5))", "(lambda () (again) 1)")
}

// weighs holds that a form has a weight, as the core tells and as forms around it tell.
func weighs(t *testing.T, what string, w world, s api.Syn, want int) {
	t.Helper()
	top, err := expand.Top(s, w.look)
	if err != api.OK || weightOf(top.Core) != want {
		t.Fatalf("%s: error %d, weight %d, want %d", what, err, weightOf(top.Core), want)
	}
	for _, more := range []int{-1, 0, 1} { // beside it stands a text that makes it just so heavy as may be, and one more
		rest := api.MaxCore + more - want - 2 // of the call and its operator
		var others []api.Syn
		for rest > 1000 {
			others = append(others, text(strings.Repeat("x", 998)))
			rest -= 1000
		}
		for rest > 500 {
			others = append(others, text(strings.Repeat("x", 400)))
			rest -= 402
		}
		others = append(others, text(strings.Repeat("x", rest-2)))
		whole := list(append([]api.Syn{id("v"), s}, others...)...)
		top := checkFits(t, what+" "+strconv.Itoa(more), w, whole, more <= 0)
		if more <= 0 && weightOf(top.Core) != api.MaxCore+more {
			t.Errorf("%s: the whole weighs %d", what, weightOf(top.Core))
		}
	}
}

func TestWeights(t *testing.T) {
	w := nested()
	for _, c := range []struct {
		source string
		want   int
	}{
		{"v", 1}, {"car", 1}, {"5", 3}, {"-12", 5}, {"#t", 2}, {"#\\a", 2}, {"\"abc\"", 5}, {"\"\"", 2}, {"#u8(1 2)", 4}, {"'()", 2}, {"'abc", 5}, {"'(a)", 1 + 1 + 2 + 1}, {"'(a a)", 1 + 2 + 2 + 1}, {"'(1 2)", 1 + 2 + 2 + 2 + 1}, {"'(\"a\" \"a\")", 1 + 2 + 2 + 2 + 1}, {"#(a b)", 1 + 1 + 2 + 2},
		{"'\u20ac", 1 + 1 + 3}, {"\"\u20ac\"", 1 + 1 + 3}, {"(if v v v)", 4}, {"(if v v)", 3 + 2}, {"(lambda () v)", 2}, {"(lambda (x y) v)", 4}, {"(lambda (x y . z) v)", 5}, {"(lambda z z)", 3}, {"(v)", 2}, {"(v v v)", 4}, {"(set! v v)", 2}, {"(lambda (x) (set! x v))", 4},
		{"(let () v)", 3}, {"(let ((x v)) x)", 5}, {"(letrec ((x v)) x)", 2 + 1 + 1 + 1 + 2 + 1}, {"(and)", 2}, {"(and v v)", 1 + 1 + 1 + 2}, {"(or)", 2}, {"(or v v)", 1 + 1 + 2 + 1 + 1 + 1 + 1}, {"(list (begin v v))", 2 + 3},
		{"(with-continuation-mark v v v)", 4}, {"(cond)", 2}, {"(cond (v))", 1 + 1 + 2 + 3 + 2}, {"(case v)", 1 + 1 + 2 + 2}, {"(case v ((a) v))", 1 + 1 + 2 + 1 + 11 + 1 + 2}, {"(when v v)", 1 + 1 + 1 + 2}, {"(do () (v))", 15},
		{"`(,v)", 1 + 1 + 2 + 1}, {"`(a b)", 1 + 2 + 1 + 2 + 2}, {"`,v", 1}, {"(parameterize () v)", 1 + 2 + 2 + 1}, {"(my-or v v)", 8}, {"(lambda () (define x v) x)", 1 + 8}, {"(lambda () (define-record-type T (C) P) v)", 29},
	} {
		weighs(t, c.source, w, pieceOf(c.source), c.want)
	}
}
