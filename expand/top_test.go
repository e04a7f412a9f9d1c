package expand_test

import (
	"testing"

	"athanor/api"
)

// Promise 13.1: what a form at the outermost level is.

func TestTopSyntax(t *testing.T) {
	checkAll(t, plain(),
		"(define-syntax m (syntax-rules () ((_ a ...) (list a ...))))", "syntax m ... () (_ a ...) -> (list a ...)", "(define-syntax if (syntax-rules dots (else k) ((_ (a dots) else) (a dots)) ((_ k) 1)))", "syntax if dots (else k) (_ (a dots) else) -> (a dots) (_ k) -> 1",
		"(define-syntax m (syntax-rules ()))", "syntax m ... ()", "(define-syntax define-syntax (syntax-rules ()))", "syntax define-syntax ... ()",
		"(define-syntax~3 m~4~5 (syntax-rules~3 (l~1) ((_~9 a~1 l~2 ...~8) (x~1 a~2 ...))))", "ErrSyntax", "(define-syntax~3 m~4~5 (syntax-rules~3 (l~1) ((_~9 a~1 ...~8 l~2) (x~1 a~2 ...))))", "syntax m ... (l) (_ a ... l) -> (x a ...)",
	)
	refusesAll(t, plain(), "(define-syntax)", "(define-syntax m)", "(define-syntax m 5)", "(define-syntax m x)", "(define-syntax m (x))", "(define-syntax m (list () ((_) 1)))", "(define-syntax m (syntax-rules))", "(define-syntax m (syntax-rules ()) 1)", "(define-syntax 5 (syntax-rules ()))", "(define-syntax (m) (syntax-rules ()))", "(define-syntax m (syntax-rules () . 1))", "(define-syntax m (syntax-rules ()) . 1)", "(define-syntax m . (syntax-rules ()))", "(define-syntax m (syntax-rules () ((_ a a) 1)))", "(define-syntax m (syntax-rules () ((_ a) (a ...))))", "(define-syntax m (else () ((_) 1)))", "(define-syntax m ((syntax-rules ())))", "(define-syntax m syntax-rules)",
		"(define-syntax m (syntax-rules () ((_ a~1 a~2) 1)))", "(list (define-syntax m (syntax-rules ())))")
	// keywords are what they resolve to
	w := plain().with(0, "ds", api.Found{Kind: api.FSpecial, N: api.SpDefineSyntax}).with(0, "sr", api.Found{Kind: api.FSpecial, N: api.SpRules}).variable(0, "syntax-rules")
	checkAll(t, w, "(ds m (sr () ((_) 1)))", "syntax m ... () (_) -> 1", "(define-syntax m (sr ()))", "syntax m ... ()")
	refusesAll(t, w, "(ds m (syntax-rules ()))", "(define-syntax m (syntax-rules () ((_) 1)))")
}

func TestTopBegin(t *testing.T) {
	checkAll(t, plain(),
		"(begin)", "forms", "(begin 1)", "forms 1", "(begin (define x 1) (define-syntax m 5) (begin) x)", "forms (define x 1) (define-syntax m 5) (begin) x", "(begin~1 (if~2 x~3~4 #(y~5) . z~6) \"t\")", "forms (if x #(y) . z) \"t\"", "(begin () (1 . 2))", "forms () (1 . 2)", "(begin if)", "forms if",
	)
	refusesAll(t, plain(), "(begin . 1)", "(begin 1 . 2)", "begin")
	w := plain().with(0, "progn", api.Found{Kind: api.FSpecial, N: api.SpBegin}).variable(0, "begin")
	checkAll(t, w, "(progn 1 (progn))", "forms 1 (progn)", "(begin 1 2)", "(app '1 '2 begin)", "(list (progn 1 2))", "(app (seq '1 '2) :list)")
}

func TestTopRecords(t *testing.T) {
	checkAll(t, plain(),
		"(define-record-type T (C) P)", "forms (define T (%record-type (quote T) (quote ()))) (define C (%record-maker T (quote ()))) (define P (%record-test T))",
		"(define-record-type point (make y) point? (x px set-px!) (y py))", "forms (define point (%record-type (quote point) (quote (x y)))) (define make (%record-maker point (quote (y)))) (define point? (%record-test point)) (define px (%record-getter point (quote x))) (define set-px! (%record-setter point (quote x))) (define py (%record-getter point (quote y)))",
		"(define-record-type T~1 (C b~2 a) P~3 (a x~4) (b~2 y z~5))", "forms (define T (%record-type (quote T) (quote (a b)))) (define C (%record-maker T (quote (b a)))) (define P (%record-test T)) (define x (%record-getter T (quote a))) (define y (%record-getter T (quote b))) (define z (%record-setter T (quote b)))",
		"(define-record-type T (T) T (a T T))", "forms (define T (%record-type (quote T) (quote (a)))) (define T (%record-maker T (quote ()))) (define T (%record-test T)) (define T (%record-getter T (quote a))) (define T (%record-setter T (quote a)))",
	)
	refusesAll(t, plain(), wrongRecords()...)
	refusesAll(t, plain(), "(define-record-type T (C) P (a~1 x) (a~2 y))", "(define-record-type T (C a~1 a~2) P (a x))")
}

// What a macro makes at the outermost level is looked at likewise.
func TestTopOfMacros(t *testing.T) {
	w := plain().
		macro(0, "m", "(syntax-rules () ((_ . r) r))").
		macro(0, "def", "(syntax-rules () ((_ n e) (define n e)))").
		macro(0, "def-hidden", "(syntax-rules () ((_ e) (define hidden (list e hidden))))").
		macro(0, "defs", "(syntax-rules () ((_ n ...) (begin (define n (if x 'n)) ...)))").
		macro(0, "rec", "(syntax-rules () ((_ t) (define-record-type t (make a) p (a get))))").
		macro(0, "syn", "(syntax-rules () ((_ n e) (define-syntax n (syntax-rules () ((_ x) (list x e))))))").
		macro(0, "dots", "(syntax-rules () ((_ n) (define-syntax n (syntax-rules () ((_ _ (x (... ...)) _) (x (... ...)))))))").
		macro(0, "syn-l", "(syntax-rules () ((_ n l) (define-syntax n (syntax-rules (l k) ((_ l) 1) ((_ k) 2)))))").
		macro(0, "alone", "(syntax-rules () ((_) (syntax-rules () ((_) 1))))")
	checkAll(t, w,
		"(m define x 5)", "(define x '5)", "(m begin 1 (m))", "forms 1 (m)", "(m m m m define x (m car 1))", "(define x (app '1 :car))", "(m . 5)", "'5", "(m car 1)", "(app '1 :car)", "(m m define-syntax k (syntax-rules ()))", "syntax k ... ()",
		"(def x 1)", "(define x '1)", "(def (f x) x)", "(define f (lambda (1) 1))", "(def-hidden 1)", "(define hidden (app '1 hidden :list))", "(defs a b)", "forms (define a (if x (quote a))) (define b (if x (quote b)))",
		"(rec T)", "forms (define T (%record-type (quote T) (quote (a)))) (define make (%record-maker T (quote (a)))) (define p (%record-test T)) (define get (%record-getter T (quote a)))",
		"(syn k v)", "syntax k ... () (_ x) -> (list x v)", "(dots k)", "syntax k ... () (_ _ (x ...) _) -> (x ...)", "(syn-l k a)", "syntax k ... (a k) (_ a) -> 1 (_ k) -> 2", "(m begin)", "forms",
		"(m define-record-type T (C) P)", "forms (define T (%record-type (quote T) (quote ()))) (define C (%record-maker T (quote ()))) (define P (%record-test T))",
		"(list (m begin 1 2))", "(app (seq '1 '2) :list)",
	)
	refusesAll(t, w, "(m)", "(m define)", "(m begin . 1)", "m", "(list (def x 1))", "(list (syn k 1))", "(list (defs))", "(def 5 1)", "(syn 5 1)", "(syn (k) 1)", "(define-syntax k (alone))", "(syn-l k 5)", "(m 1 . 2)", "(rec 5)", "(def x)", "(define def)", "(m if)")
	checkAll(t, w, "(define def 1)", "(define def '1)", "(define (m) (m list))", "(define m (lambda () (app :list)))")
}

// Stamps of the form that is handed in count nothing.
func TestStampsOfTheForm(t *testing.T) {
	w := plain().macro(0, "m", "(syntax-rules (l) ((_ l a) (let ((x 1)) (list x a))) ((_ . r) 2))")
	checkAll(t, w,
		"x~1", "x", "car~1~2", ":car", "(if~1 1 v~3)", "(if '1 v '#<void>)", "(lambda~5 (x~1) x~2)", "(lambda (1) 1)", "(quote~1 (a~2 . b~3))", "'(a . b)", "(define~1 x~2 x~3)", "(define x x)", "(m~7 l~8 x~9)", "(app '1 (lambda (1) (app 1 x :list)))", "(m~0 k l)", "'2", "(m l~0 x~0)", "(app '1 (lambda (1) (app 1 x :list)))",
		"(lambda (x~0) (m l x))", "(lambda (1) (app '1 (lambda (2) (app 2 1 :list))))",
	)
	refusesAll(t, w, "(lambda (x~1 x~2) 1)", "(let ((x~1 1) (x 2)) 1)", "(lambda () (define x~1 1) (define x~2 2) x)")
}
