package expand_test

import (
	"testing"

	"athanor/api"
)

// Promise 13.1: the table of core forms, row by row.

// plain is a world of a variable of each environment.
func plain() world { return world{}.variable(0, "v") }

func TestExamples(t *testing.T) {
	w := plain().variable(0, "a").variable(0, "b").macro(0, "my-or", "(syntax-rules () ((_ a b) (let ((t a)) (if t t b))))")
	checkAll(t, w,
		"(or a b)", "(app a (lambda (1) (if 1 1 b)))",
		"(let ((t 5)) (my-or #f t))", "(app '5 (lambda (1) (app '#f (lambda (2) (if 2 2 1)))))",
	)
}

func TestIdentifiers(t *testing.T) {
	w := plain().with(0, "odd", api.Found{Kind: 7}).with(0, "other", api.Found{Kind: -1}).with(0, "prim", api.Found{Kind: api.FPrim, N: 5, Env: 3}).macro(0, "m", "(syntax-rules () ((_) 1))")
	checkAll(t, w,
		"v", "v", "nothing", "nothing", "car", ":car", "prim", ":pair?", "call/cc", ":call/cc", "load-string", ":load-string",
		"(lambda (x) x)", "(lambda (1) 1)", "(lambda (x) y)", "(lambda (1) y)", "(lambda (v) v)", "(lambda (1) 1)", "(lambda (car) car)", "(lambda (1) 1)",
		"(lambda (if) if)", "(lambda (1) 1)", "(lambda (m) m)", "(lambda (1) 1)", "(lambda (else) else)", "(lambda (1) 1)",
		"(lambda (x) (lambda (y) (x y)))", "(lambda (1) (lambda (2) (app 2 1)))", "(lambda (x) (lambda (x) x))", "(lambda (1) (lambda (2) 2))",
	)
	refusesAll(t, w, "m", "odd", "other", "(list m)", "(m m)")
	for _, name := range api.Specials {
		refusesAll(t, w, name, "(list "+name+")", "(lambda () "+name+")", "(if "+name+" 1 2)", "(define x "+name+")")
	}
}

func TestConstants(t *testing.T) {
	checkAll(t, plain(),
		"5", "'5", "#t", "'#t", "#f", "'#f", "#\\a", "'#\\a", "\"text\"", "'\"text\"", "#u8(1 2)", "'#u8(1 2)", "-123456789012345678901234567890", "'-123456789012345678901234567890",
		"#()", "'#()", "#(1 (x . y) #(if))", "'#(1 (x . y) #(if))",
		"(quote x)", "'x", "(quote ())", "'()", "(quote (a b . c))", "'(a b . c)", "(quote (quote x))", "'(quote x)", "(quote #(x))", "'#(x)", "(quote 5)", "'5", "(quote if)", "'if",
		"(lambda (x) (quote x))", "(lambda (1) 'x)",
	)
	refusesAll(t, plain(), "(quote)", "(quote a b)", "(quote . a)", "(quote a . b)", "()", "(lambda () ())")
}

func TestIf(t *testing.T) {
	checkAll(t, plain(),
		"(if v 1 2)", "(if v '1 '2)", "(if v 1)", "(if v '1 '#<void>)", "(if (if 1 2) (if 3 4 5) (if 6 7))", "(if (if '1 '2 '#<void>) (if '3 '4 '5) (if '6 '7 '#<void>))",
	)
	refusesAll(t, plain(), "(if)", "(if 1)", "(if 1 2 3 4)", "(if 1 2 . 3)", "(if . 1)", "(if 1 2 3 . 4)")
}

func TestLambda(t *testing.T) {
	checkAll(t, plain(),
		"(lambda () 5)", "(lambda () '5)", "(lambda (x y) (list x y))", "(lambda (1 2) (app 1 2 :list))", "(lambda (x y . z) (list x y z))", "(lambda (1 2 . 3) (app 1 2 3 :list))",
		"(lambda z z)", "(lambda ( . 1) 1)", "(lambda (x . y) x)", "(lambda (1 . 2) 1)", "(lambda () 1 2 3)", "(lambda () (seq '1 '2 '3))",
		"(lambda (lambda) (lambda lambda))", "(lambda (1) (app 1 1))",
	)
	refusesAll(t, plain(), "(lambda)", "(lambda ())", "(lambda x)", "(lambda (x x) 1)", "(lambda (x y x) 1)", "(lambda (x . x) 1)", "(lambda (x y . x) 1)", "(lambda (5) 1)", "(lambda ((x)) 1)", "(lambda (x . 5) 1)", "(lambda (x . #(y)) 1)",
		"(lambda 5 1)", "(lambda #(x) 1)", "(lambda (x) . 1)", "(lambda (x) 1 . 2)", "(lambda \"x\" 1)")
}

func TestBegin(t *testing.T) {
	checkAll(t, plain(),
		"(list (begin 1))", "(app '1 :list)", "(list (begin 1 v))", "(app (seq '1 v) :list)", "(list (begin (begin 1) (begin 2 3)))", "(app (seq '1 (seq '2 '3)) :list)",
	)
	refusesAll(t, plain(), "(list (begin))", "(list (begin . 1))", "(list (begin 1 . 2))", "(list (begin 1 (define x 2)))", "(list (begin (define x 2)))", "(list (begin (begin)))")
}

func TestSet(t *testing.T) {
	w := plain().macro(0, "m", "(syntax-rules () ((_) 1))").with(0, "odd", api.Found{Kind: 7})
	checkAll(t, w,
		"(set! v 1)", "(set v '1)", "(set! nothing 1)", "(set nothing '1)", "(set! car 1)", "(set car '1)", "(lambda (x) (set! x v))", "(lambda (1) (set 1 v))", "(lambda (if) (set! if 1))", "(lambda (1) (set 1 '1))", "(lambda (m) (set! m m))", "(lambda (1) (set 1 1))",
		"(set! v (set! v 2))", "(set v (set v '2))",
	)
	refusesAll(t, w, "(set! if 1)", "(set! else 1)", "(set! m 1)", "(set! odd 1)", "(set! v)", "(set! v 1 2)", "(set!)", "(set! 5 1)", "(set! (v) 1)", "(set! v . 1)", "(set! v 1 . 2)", "(set! \"v\" 1)")
}

func TestDefine(t *testing.T) {
	checkAll(t, plain(),
		"(define x 5)", "(define x '5)", "(define if 5)", "(define if '5)", "(define x (lambda (x) x))", "(define x (lambda (1) 1))", "(define (f) 1)", "(define f (lambda () '1))", "(define (f x . r) (f x) r)", "(define f (lambda (1 . 2) (seq (app 1 f) 2)))",
		"(define (f . r) r)", "(define f (lambda ( . 1) 1))", "(define (f x) (define y x) y)", "(define f (lambda (1) (app unset (lambda (2) (seq (set 2 1) 2)))))", "(define (f f) f)", "(define f (lambda (1) 1))",
		"(define (lambda lambda) (lambda 1))", "(define lambda (lambda (1) (app '1 1)))",
	)
	refusesAll(t, plain(), "(define)", "(define x)", "(define x 1 2)", "(define 5 1)", "(define \"x\" 1)", "(define (f))", "(define () 1)", "(define (5) 1)", "(define ((f a) b) 1)", "(define (f 5) 1)", "(define (f x x) 1)", "(define (f . 5) 1)", "(define x . 1)", "(define x 1 . 2)", "(define . x)", "(define #(f) 1)",
		"(list (define x 1))", "(if 1 (define x 1))", "(define x (define y 1))", "(and (define x 1))", "(when 1 (define x 1))", "(set! v (define x 1))", "(lambda () 1 (define x 1))", "(lambda () (if 1 (define x 1)))", "(cond (else (define x 1)))", "(let ((x (define y 1))) 1)", "(quasiquote (unquote (define x 1)))")
}

func TestCalls(t *testing.T) {
	checkAll(t, plain(),
		"(v)", "(app v)", "(v 1 2)", "(app '1 '2 v)", "(car 1)", "(app '1 :car)", "((lambda (x) x) 1)", "(app '1 (lambda (1) 1))", "((v))", "(app (app v))", "(5 1)", "(app '1 '5)", "(#(1) 2)", "(app '2 '#(1))", "((if 1 2 3) 4)", "(app '4 (if '1 '2 '3))", "(\"x\")", "(app '\"x\")",
		"(lambda (if) (if 1))", "(lambda (1) (app '1 1))", "(lambda (quote) '1)", "(lambda (1) (app '1 1))", "(lambda (begin define) (begin define))", "(lambda (1 2) (app 2 1))",
	)
	refusesAll(t, plain(), "(v . 1)", "(v 1 . 2)", "(() 1)", "(v ())", "(v 1 . #(2))", "((v . 1) 2)")
	for _, name := range []string{"else", "=>", "unquote", "unquote-splicing", "...", "_", "syntax-rules"} {
		refusesAll(t, plain(), "("+name+")", "("+name+" 1)", "("+name+" (a) b)", "(lambda () ("+name+" 1 2))")
	}
}

func TestMark(t *testing.T) {
	checkAll(t, plain(), "(with-continuation-mark 1 v (v))", "(mark '1 v (app v))", "(with-continuation-mark (with-continuation-mark 1 2 3) 4 5)", "(mark (mark '1 '2 '3) '4 '5)")
	refusesAll(t, plain(), "(with-continuation-mark)", "(with-continuation-mark 1 2)", "(with-continuation-mark 1 2 3 4)", "(with-continuation-mark 1 2 . 3)", "(with-continuation-mark 1 2 3 . 4)", "(with-continuation-mark if 2 3)")
}
