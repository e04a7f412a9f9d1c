package expand_test

import (
	"testing"

	"athanor/api"
	"athanor/expand"
)

// Promise 13.1: what identifiers resolve to, macros' uses, literals.

// standing is a world in which macros stand in environments around the one at hand, where names are something else.
func standing() world {
	return plain().
		variable(0, "here").variable(1, "there").variable(2, "far").variable(0, "both").variable(1, "both").
		with(0, "if", api.Found{Kind: api.FVar}).with(1, "begin", api.Found{Kind: api.FVar, Env: 1}).with(1, "mine", api.Found{Kind: api.FSpecial, N: api.SpQuote}).
		with(0, "names", api.Found{Kind: api.FMacro, Env: 1, Macro: macroOf("(syntax-rules () ((_ a) (list here there both car a)))")}).
		with(0, "choice", api.Found{Kind: api.FMacro, Env: 1, Macro: macroOf("(syntax-rules () ((_ a b) (if a b mine)))")}).
		with(0, "quoting", api.Found{Kind: api.FMacro, Env: 1, Macro: macroOf("(syntax-rules () ((_ a) (mine (a b))))")}).
		with(0, "seq", api.Found{Kind: api.FMacro, Env: 1, Macro: macroOf("(syntax-rules () ((_ a b) (begin a b)))")}).
		with(0, "sets", api.Found{Kind: api.FMacro, Env: 1, Macro: macroOf("(syntax-rules () ((_ a) (lambda () (set! there a) (set! both here) (set! car a))))")}).
		with(0, "through", api.Found{Kind: api.FMacro, Env: 1, Macro: macroOf("(syntax-rules () ((_ a) (inner a both)))")}).
		with(1, "inner", api.Found{Kind: api.FMacro, Env: 2, Macro: macroOf("(syntax-rules () ((_ a b) (list a b both far)))")}).
		with(0, "inner", api.Found{Kind: api.FMacro, Env: 0, Macro: macroOf("(syntax-rules () ((_ a b) \"the wrong one\"))")}).
		with(0, "binds", api.Found{Kind: api.FMacro, Env: 1, Macro: macroOf("(syntax-rules () ((_ x a) (let ((x there) (both 1)) (list a both x))))")}).
		with(0, "twice", api.Found{Kind: api.FMacro, Env: 1, Macro: macroOf("(syntax-rules () ((_ a b) (lambda (x) (once (lambda (a) (list x a b))))))")}).
		with(1, "once", api.Found{Kind: api.FMacro, Env: 2, Macro: macroOf("(syntax-rules () ((_ a) (lambda (x) (list x a))))")})
}

func TestWhereNamesAreLookedFor(t *testing.T) {
	checkAll(t, standing(),
		"(names both)", "(app here@1 there@1 both@1 :car both :list)", "(lambda (here there both car list) (names both))", "(lambda (1 2 3 4 5) (app here@1 there@1 both@1 :car 3 :list))",
		"(quoting c)", "'(c b)", "(lambda (mine) (quoting c))", "(lambda (1) '(c b))", "(seq 1 2)", "(app '1 '2 begin@1)", "(sets 1)", "(lambda () (seq (set there@1 '1) (set both@1 here@1) (set car@1 '1)))",
		"(if 1 2 3)", "(app '1 '2 '3 if)", "(through both)", "(app both both@1 both@2 far@2 :list)", "(lambda (inner both) (through both))", "(lambda (1 2) (app 2 both@1 both@2 far@2 :list))", "(inner 1 2)", "'\"the wrong one\"",
		"(binds x (list x both there))", "(app there@1 '1 (lambda (1 2) (app (app 1 both there :list) 2 1 :list)))", "(lambda (x) (binds y x))", "(lambda (1) (app there@1 '1 (lambda (2 3) (app 1 3 2 :list))))",
		"(binds both both)", "(app there@1 '1 (lambda (1 2) (app 1 2 1 :list)))",
		"(lambda (x) (twice y x))", "(lambda (1) (lambda (2) (lambda (3) (app 3 (lambda (4) (app 2 4 1 :list)) :list))))", "(twice x x)", "(lambda (1) (lambda (2) (app 2 (lambda (3) (app 1 3 3 :list)) :list)))",
	)
	refusesAll(t, standing(), "(choice 1 2)")
}

// nested are macros whose uses stand in one another, and pass names on.
func nested() world {
	return plain().
		macro(0, "my-or", "(syntax-rules () ((_) #f) ((_ a) a) ((_ a . r) (let ((t a)) (if t t (my-or . r)))))").
		macro(0, "swap!", "(syntax-rules () ((_ a b) (let ((tmp a)) (set! a b) (set! b tmp))))").
		macro(0, "my-let", "(syntax-rules () ((_ ((n e) ...) . b) ((lambda (n ...) . b) e ...)))").
		macro(0, "my-let*", "(syntax-rules () ((_ () . b) (my-let () . b)) ((_ (one . r) . b) (my-let (one) (my-let* r . b))))").
		macro(0, "while", "(syntax-rules () ((_ t . b) (let loop () (if t (begin (begin . b) (loop))))))").
		macro(0, "with-x", "(syntax-rules () ((_ e) (let ((x 1)) (list x e))))").
		macro(0, "lam", "(syntax-rules () ((_ a e) (lambda (x a) (list x a e))))").
		macro(0, "lam2", "(syntax-rules () ((_ e) (lam x (list x e))))").
		macro(0, "tmps", "(syntax-rules () ((_ () (n ...) (e ...)) (lambda (n ...) (list n ... e ...))) ((_ (a . r) (n ...) (e ...)) (tmps r (n ... tmp) (e ... a))))").
		macro(0, "two", "(syntax-rules () ((_ n) (begin (define tmp 1) (define n tmp))))")
}

func TestMacrosUses(t *testing.T) {
	checkAll(t, nested(),
		"(lambda (t) (my-or v t))", "(lambda (1) (app v (lambda (2) (if 2 2 1))))", "(lambda (t if let) (my-or if t let))", "(lambda (1 2 3) (app 2 (lambda (4) (if 4 4 (app 1 (lambda (5) (if 5 5 3)))))))",
		"(lambda (tmp y) (swap! tmp y))", "(lambda (1 2) (app 1 (lambda (3) (seq (set 1 2) (set 2 3)))))", "(lambda (tmp) (swap! tmp v) (swap! v tmp))", "(lambda (1) (seq (app 1 (lambda (2) (seq (set 1 v) (set v 2)))) (app v (lambda (3) (seq (set v 1) (set 1 3))))))",
		"(my-let* ((x 1) (y x)) (define z y) z)", "(app '1 (lambda (1) (app 1 (lambda (2) (app (lambda () (app unset (lambda (3) (seq (set 3 2) 3)))))))))", "(lambda (loop) (while (loop) loop 1))", "(lambda (1) (app (app unset (lambda (2) (seq (set 2 (lambda () (if (app 1) (seq (seq 1 '1) (app 2)) '#<void>))) 2)))))",
		"(lambda (x) (with-x (with-x x)))", "(lambda (1) (app '1 (lambda (2) (app 2 (app '1 (lambda (3) (app 3 1 :list))) :list))))", "(lam x x)", "(lambda (1 2) (app 1 2 2 :list))", "(lambda (x) (lam2 x))", "(lambda (1) (lambda (2 3) (app 2 3 (app 3 1 :list) :list)))",
		"(tmps (v tmp 1) () ())", "(lambda (1 2 3) (app 1 2 3 v tmp '1 :list))", "(lambda () (two a) (two b) (list a b))", "(lambda () (app unset unset unset unset (lambda (1 2 3 4) (seq (set 1 '1) (set 2 1) (set 3 '1) (set 4 3) (app 2 4 :list)))))",
		"(lambda () (two tmp) tmp)", "(lambda () (app unset unset (lambda (1 2) (seq (set 1 '1) (set 2 1) 2))))", "(my-or)", "'#f", "(my-or (my-or (my-or v)))", "v", "(lambda (my-or) (my-or 1 2))", "(lambda (1) (app '1 '2 1))", "(quote (my-or 1))", "'(my-or 1)", "#((my-or 1))", "'#((my-or 1))",
		"(with-x . (v))", "(app '1 (lambda (1) (app 1 v :list)))", "((my-or v) 1)", "(app '1 v)", "(my-let ((if 1)) (if if if))", "(app '1 (lambda (1) (app 1 1 1)))",
	)
	refusesAll(t, nested(), "(swap! x)", "(swap! 1 2)", "(my-let ((x 1) (x 2)) x)", "(lam (x) 1)", "(my-let x)", "(two x y)", "(with-x 1 . 2)", "(v . my-or)", "(while 1 . 2)", "(my-let* ((x)) 1)")
}

// literal is a macro with literals.
func literal() world {
	m := macroOf("(syntax-rules (else => l nothing car k) ((_ else) 1) ((_ =>) 2) ((_ l) 3) ((_ nothing) 4) ((_ car) 5) ((_ k) 6) ((_ x) 7))")
	return plain().
		variable(0, "l").variable(0, "k").
		with(0, "m", api.Found{Kind: api.FMacro, Macro: m}).
		with(0, "far", api.Found{Kind: api.FMacro, Env: 1, Macro: m}).
		with(1, "l", api.Found{Kind: api.FVar}).with(1, "k", api.Found{Kind: api.FVar, Env: 1}).variable(1, "nothing").
		macro(0, "pass", "(syntax-rules () ((_ m x) (m x)))").
		macro(0, "brings", "(syntax-rules () ((_ m) (list (m else) (m l) (m nothing) (m other))))").
		macro(0, "bound", "(syntax-rules () ((_ m x) (lambda (else x) (list (m else) (m x)))))").
		with(0, "brings-far", api.Found{Kind: api.FMacro, Env: 1, Macro: macroOf("(syntax-rules () ((_ m) (list (m else) (m l) (m nothing) (m car) (m k))))")})
}

func TestLiterals(t *testing.T) {
	checkAll(t, literal(),
		"(m else)", "'1", "(m =>)", "'2", "(m l)", "'3", "(m nothing)", "'4", "(m car)", "'5", "(m k)", "'6", "(m other)", "'7", "(m (else))", "'7", "(m cdr)", "'7", "(m 5)", "'7",
		"(lambda (else) (m else))", "(lambda (1) '7)", "(lambda (else) (m =>))", "(lambda (1) '2)", "(lambda (l) (m l))", "(lambda (1) '7)", "(lambda (m) (m else))", "ErrSyntax",
		"(lambda (nothing) (let ((x 1)) (m nothing)))", "(lambda (1) (app '1 (lambda (2) '7)))", "(let* ((car 1)) (m car))", "(app '1 (lambda (1) (app (lambda () '7))))", "(lambda () (define l 1) (m l))", "(lambda () (app unset (lambda (1) (seq (set 1 '1) '7))))",
		// where the literal stands it may be something else
		"(far else)", "'1", "(far car)", "'5", "(far l)", "'3", "(far nothing)", "'7", "(far k)", "'7", "(lambda (l) (far l))", "(lambda (1) '7)",
		// names that macros bring in, or pass on
		"(pass m else)", "'1", "(pass m other)", "'7", "(lambda (else) (pass m else))", "(lambda (1) '7)", "(brings m)", "(app '1 '3 '4 '7 :list)", "(lambda (else l) (brings m))", "(lambda (1 2) (app '1 '3 '4 '7 :list))",
		"(bound m l)", "(lambda (1 2) (app '7 '7 :list))", "(bound m else)", "(lambda (1 2) (app '7 '7 :list))",
		"(brings-far far)", "(app '1 '3 '4 '5 '6 :list)", "(brings-far m)", "(app '1 '3 '7 '5 '7 :list)",
	)
}

// A literal fits what is the same by Kind, N and Env, and has its text.
func TestWhatLiteralsAreHeldBy(t *testing.T) {
	m := macroOf("(syntax-rules (l) ((_ l) 1) ((_ x) 2))")
	other := macroOf("(syntax-rules () ((_) 5))")
	kinds := []api.Found{{}, {Kind: api.FVar}, {Kind: api.FVar, Env: 1}, {Kind: api.FVar, N: 1}, {Kind: api.FPrim, N: 1}, {Kind: api.FPrim, N: 2}, {Kind: api.FSpecial, N: 1}, {Kind: api.FSpecial, N: 1, Env: 1}, {Kind: api.FMacro, N: 1, Macro: m}, {Kind: api.FMacro, N: 1, Env: 3, Macro: m}, {Kind: 9, N: 1}, {Env: 1}}
	for i, here := range kinds {
		for k, there := range kinds {
			w := world{}.with(0, "m", api.Found{Kind: api.FMacro, Env: 7, Macro: m}).with(0, "l", here).with(7, "l", there)
			want := "'2"
			if i == k {
				want = "'1"
			}
			checkTop(t, w, "(m l)", want)
		}
	}
	// what a macro is else does not count, nor does another name of the same thing
	w := world{}.with(0, "m", api.Found{Kind: api.FMacro, Env: 7, Macro: m}).with(0, "l", api.Found{Kind: api.FMacro, Env: 3, Macro: other}).with(7, "l", api.Found{Kind: api.FMacro, Env: 3, Macro: m}).with(0, "k", api.Found{Kind: api.FMacro, Env: 3, Macro: m})
	checkAll(t, w, "(m l)", "'1", "(m k)", "'2")
	// a literal's own stamps do not count, nor does the environment of the name that is held against it, if that has none
	stamped := m
	stamped.Literals = []api.Syn{id("l", 5, 6)}
	stamped.Rules = []api.Rule{{Pattern: list(id("_"), id("l", 5, 6)), Template: number(1)}, m.Rules[1]}
	checkAll(t, world{}.with(0, "m", api.Found{Kind: api.FMacro, Macro: stamped}), "(m l)", "'1", "(m k)", "'2", "(lambda (l) (m l))", "(lambda (1) '2)")
}

// Each use has a stamp of its own, whatever stamps a macro has of itself.
func TestStampsOfMacros(t *testing.T) {
	m := api.Macro{Ellipsis: id("..."), Rules: []api.Rule{{Pattern: list(id("_"), id("a")), Template: list(id("lambda"), list(id("x"), id("x", 0), id("x", 1), id("x", 7)), list(id("list", 9), id("x", 0), id("x"), id("x", 7), id("x", 1), id("a")))}}}
	w := world{}.with(0, "m", api.Found{Kind: api.FMacro, Env: 4, Macro: m})
	for _, c := range [][2]string{
		{"(m 5)", "(lambda (1 2 3 4) (app 2 1 4 3 '5 :list))"}, {"(m (m x))", "(lambda (1 2 3 4) (app 2 1 4 3 (lambda (5 6 7 8) (app 6 5 8 7 x :list)) :list))"},
	} {
		checkTop(t, w, c[0], c[1])
	}
	// a stamp that no use had says nothing of where a name is looked for
	m.Rules[0].Template = list(id("list"), id("y", 77), id("y", 1), id("y", -1), id("y", 1<<62))
	if got := answer(expand.Top(pieceOf("(m 1)"), world{}.with(0, "m", api.Found{Kind: api.FMacro, Env: 4, Macro: m}).look)); got != "(app y@4 y@4 y@4 y@4 :list)" {
		t.Error(got)
	}
}

// Look is asked of names without stamps alone, in the environment at hand and in those of macros, and not of locals; once of each, for it may have much to do.
func TestWhoIsAsked(t *testing.T) {
	type asked struct {
		env  int
		name string
	}
	all := map[asked]int{}
	w := standing()
	top, err := expand.Top(pieceOf("(lambda (x) (names (twice y ((lambda (y) 5 (x)) \"t\" #(u) (quote w)))))"), func(env int, name string) api.Found {
		all[asked{env, name}]++
		return w.look(env, name)
	})
	if err != api.OK {
		t.Fatal(err)
	}
	for _, q := range []asked{{0, "lambda"}, {0, "names"}, {0, "twice"}, {0, "quote"}, {1, "list"}, {1, "here"}, {1, "there"}, {1, "both"}, {1, "car"}, {1, "lambda"}, {1, "once"}, {2, "lambda"}, {2, "list"}} {
		if all[q] != 1 {
			t.Errorf("asked %d times of %s in %d", all[q], q.name, q.env)
		}
		delete(all, q)
	}
	for q := range all {
		t.Errorf("asked of %s in %d", q.name, q.env)
	}
	if got := show(top.Core); got != "(lambda (1) (app here@1 there@1 both@1 :car (lambda (2) (lambda (3) (app 3 (lambda (4) (app 2 4 (app '\"t\" '#(u) 'w (lambda (5) (seq '5 (app 1)))) :list)) :list))) :list))" {
		t.Error(got)
	}
}
