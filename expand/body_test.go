package expand_test

import "testing"

// Promise 13.1: bodies, and what records stand for.

// bodies are worlds in which macros make what may stand in front of a body.
func bodies() world {
	return plain().
		macro(0, "def", "(syntax-rules () ((_ n e) (define n e)))").
		macro(0, "def2", "(syntax-rules () ((_ a b) (begin (define a 1) (define b a))))").
		macro(0, "hidden", "(syntax-rules () ((_ n) (begin (define x 1) (define n x))))").
		macro(0, "nothing", "(syntax-rules () ((_) (begin)))").
		macro(0, "one", "(syntax-rules () ((_) 1))").
		macro(0, "many", "(syntax-rules () ((_ . r) (begin . r)))").
		macro(0, "rec", "(syntax-rules () ((_ t g) (define-record-type t (make g) p (g get))))")
}

func TestBodies(t *testing.T) {
	checkAll(t, bodies(),
		"(lambda () (define x 1) x)", "(lambda () (app unset (lambda (1) (seq (set 1 '1) 1))))", "(lambda () (define x y) (define y x) x y)", "(lambda () (app unset unset (lambda (1 2) (seq (set 1 2) (set 2 1) (seq 1 2)))))",
		"(lambda (x) (define x x) x)", "(lambda (1) (app unset (lambda (2) (seq (set 2 2) 2))))", "(lambda () (define (f . r) (f) r) f)", "(lambda () (app unset (lambda (1) (seq (set 1 (lambda ( . 2) (seq (app 1) 2))) 1))))",
		"(lambda () (define (f x) (define x 1) x) f)", "(lambda () (app unset (lambda (1) (seq (set 1 (lambda (2) (app unset (lambda (3) (seq (set 3 '1) 3))))) 1))))",
		"(lambda () (begin) 1)", "(lambda () '1)", "(lambda () (begin (begin)) (begin 1 2) 3)", "(lambda () (seq '1 '2 '3))", "(lambda () (begin 1) (begin 2 3))", "(lambda () (seq '1 (seq '2 '3)))",
		"(lambda () (begin (define x 1) (begin (define y 2))) (begin) (define z 3) (begin (begin x) y) z)", "(lambda () (app unset unset unset (lambda (1 2 3) (seq (set 1 '1) (set 2 '2) (set 3 '3) (seq 1 2 3)))))",
		"(lambda () (begin (define x 1) x) x)", "(lambda () (app unset (lambda (1) (seq (set 1 '1) (seq 1 1)))))", "(lambda () (begin (begin (begin 1) 2) 3) 4)", "(lambda () (seq '1 '2 '3 '4))",
		"(lambda () 1 (begin 2))", "(lambda () (seq '1 '2))", "(lambda () (if 1 2) (begin 3 4) 5)", "(lambda () (seq (if '1 '2 '#<void>) (seq '3 '4) '5))",
	)
	refusesAll(t, bodies(), "(lambda ())", "(lambda () (define x 1))", "(lambda () (begin))", "(lambda () (begin) (begin (begin)))", "(lambda () (define x 1) (define x 2) x)", "(lambda () (define x 1) (begin (define (x) 2)) x)", "(lambda () (define x 1) x (define y 2))", "(lambda () (define x 1) (begin x (define y 2)) y)",
		"(lambda () 1 (define x 2) x)", "(lambda () (define 5 1) 1)", "(lambda () (define x) 1)", "(lambda () (define x 1 2) 1)", "(lambda () (define x . 1) 1)", "(lambda () (define (x)) 1)", "(lambda () (begin . 1) 1)", "(lambda () (begin 1 . 2) 3)", "(lambda () 1 (begin))", "(lambda () (define-syntax m (syntax-rules ())) 1)", "(lambda () (define (f x x) 1) 1)", "(lambda () (define) 1)",
		"(let () (define x 1))", "(let loop () (define x 1))", "(let* () (define x 1))", "(letrec () (define x 1))", "(parameterize () (define x 1))", "(guard (x) (define x 1))")
}

// Names that are defined are bound from there on, and in all expressions.
func TestNamesThatAreDefined(t *testing.T) {
	checkAll(t, bodies(),
		"(lambda () (define list 1) (list 2))", "(lambda () (app unset (lambda (1) (seq (set 1 '1) (app '2 1)))))",
		"(lambda () (define (if a) a) (if 1))", "(lambda () (app unset (lambda (1) (seq (set 1 (lambda (2) 2)) (app '1 1)))))",
		"(lambda () (define define 1) (define 2 3))", "(lambda () (app unset (lambda (1) (seq (set 1 '1) (app '2 '3 1)))))", "(lambda () (define x (define 1)) (define define 2) x)", "(lambda () (app unset unset (lambda (1 2) (seq (set 1 (app '1 2)) (set 2 '2) 1))))",
		"(lambda () (define begin 1) (begin (begin)))", "(lambda () (app unset (lambda (1) (seq (set 1 '1) (app (app 1) 1)))))", "(lambda () (begin (define begin 1)) (begin 2))", "(lambda () (app unset (lambda (1) (seq (set 1 '1) (app '2 1)))))",
		"(lambda () (begin (define begin 1) (begin 2)) 3)", "(lambda () (app unset (lambda (1) (seq (set 1 '1) (seq (app '2 1) '3)))))",
		"(lambda () (def x (one)) (define one x) (one))", "(lambda () (app unset unset (lambda (1 2) (seq (set 1 (app 2)) (set 2 1) (app 2)))))", "(lambda () (define one 1) (one))", "(lambda () (app unset (lambda (1) (seq (set 1 '1) (app 1)))))",
		"(lambda () (define (f) (def 1 2)) (define def f) f)", "(lambda () (app unset unset (lambda (1 2) (seq (set 1 (lambda () (app '1 '2 2))) (set 2 1) 1))))",
		"(lambda () (def def 1) (def 2))", "(lambda () (app unset (lambda (1) (seq (set 1 '1) (app '2 1)))))", "(lambda () (define quote 1) '2)", "(lambda () (app unset (lambda (1) (seq (set 1 '1) (app '2 1)))))",
		"(lambda () (define (lambda) 1) (define (f) 2) f)", "(lambda () (app unset unset (lambda (1 2) (seq (set 1 (lambda () '1)) (set 2 (lambda () '2)) 2))))",
		"(lambda (define) (define 1))", "(lambda (1) (app '1 1))", "(lambda (begin) (begin 1) 2)", "(lambda (1) (seq (app '1 1) '2))",
	)
	refusesAll(t, bodies(), "(lambda () (one) (define one 1) one)", "(lambda () (define begin 1) (begin (define x 2)) x)", "(lambda () (if) (define (if) 1) if)")
}

func TestBodiesOfMacros(t *testing.T) {
	checkAll(t, bodies(),
		"(lambda () (def x 1) x)", "(lambda () (app unset (lambda (1) (seq (set 1 '1) 1))))", "(lambda () (def2 x y) (nothing) (def2 a b) a)", "(lambda () (app unset unset unset unset (lambda (1 2 3 4) (seq (set 1 '1) (set 2 1) (set 3 '1) (set 4 3) 3))))",
		"(lambda () (hidden a) (define x 2) (hidden b) (x a b))", "(lambda () (app unset unset unset unset unset (lambda (1 2 3 4 5) (seq (set 1 '1) (set 2 1) (set 3 '2) (set 4 '1) (set 5 4) (app 2 5 3)))))",
		"(lambda () (many (define x 1) (many) (many (def y 2)) x) y)", "(lambda () (app unset unset (lambda (1 2) (seq (set 1 '1) (set 2 '2) (seq 1 2)))))", "(lambda () (one) (many 2 3))", "(lambda () (seq '1 (seq '2 '3)))", "(lambda () (many 2 3) (one))", "(lambda () (seq '2 '3 '1))",
		"(lambda () (nothing) (one))", "(lambda () '1)",
	)
	refusesAll(t, bodies(), "(lambda () (nothing))", "(lambda () (def x 1))", "(lambda () (one) (def x 1) x)", "(lambda () (def x 1) (def x 2) x)", "(lambda () (def2 x x) x)", "(lambda () (one) (nothing))", "(lambda () (nothing 1) 1)", "(lambda () (many (one) (def x 1)) x)")
}

func TestRecordsInBodies(t *testing.T) {
	checkAll(t, bodies(),
		"(lambda () (define-record-type T (C) P) T)", "(lambda () (app unset unset unset (lambda (1 2 3) (seq (set 1 (app 'T '() :%record-type)) (set 2 (app 1 '() :%record-maker)) (set 3 (app 1 :%record-test)) 1))))",
		"(lambda () (define-record-type T (C b) P (a ga sa) (b gb)) (define x 1) (sa gb) x)", "(lambda () (app unset unset unset unset unset unset unset (lambda (1 2 3 4 5 6 7) (seq (set 1 (app 'T '(a b) :%record-type)) (set 2 (app 1 '(b) :%record-maker)) (set 3 (app 1 :%record-test)) (set 4 (app 1 'a :%record-getter)) (set 5 (app 1 'a :%record-setter)) (set 6 (app 1 'b :%record-getter)) (set 7 '1) (seq (app 6 5) 7)))))",
		"(lambda () (define-record-type T (C b a) P (a ga) (b gb sb)) T)", "(lambda () (app unset unset unset unset unset unset (lambda (1 2 3 4 5 6) (seq (set 1 (app 'T '(a b) :%record-type)) (set 2 (app 1 '(b a) :%record-maker)) (set 3 (app 1 :%record-test)) (set 4 (app 1 'a :%record-getter)) (set 5 (app 1 'b :%record-getter)) (set 6 (app 1 'b :%record-setter)) 1))))",
		"(lambda (%record-type quote) (define-record-type T (C) P) C)", "(lambda (1 2) (app unset unset unset (lambda (3 4 5) (seq (set 3 (app 'T '() :%record-type)) (set 4 (app 3 '() :%record-maker)) (set 5 (app 3 :%record-test)) 4))))",
		"(lambda () (rec t g) (t make))", "(lambda () (app unset unset unset unset (lambda (1 2 3 4) (seq (set 1 (app 't '(g) :%record-type)) (set 2 (app 1 '(g) :%record-maker)) (set 3 (app 1 :%record-test)) (set 4 (app 1 'g :%record-getter)) (app make 1)))))",
		"(lambda () (define-record-type define (begin) if (x y)) (define begin if))", "(lambda () (app unset unset unset unset (lambda (1 2 3 4) (seq (set 1 (app 'define '(x) :%record-type)) (set 2 (app 1 '() :%record-maker)) (set 3 (app 1 :%record-test)) (set 4 (app 1 'x :%record-getter)) (app 2 3 1)))))",
	)
	refusesAll(t, bodies(), "(lambda () (define-record-type T (C) P))", "(lambda () (define-record-type T (T) P) 1)", "(lambda () (define-record-type T (C) T) 1)", "(lambda () (define-record-type T (C) C) 1)", "(lambda () (define-record-type T (C) P (a T)) 1)", "(lambda () (define-record-type T (C) P (a x) (b x)) 1)", "(lambda () (define-record-type T (C) P (a x x)) 1)",
		"(lambda () (define T 1) (define-record-type T (C) P) 1)", "(lambda () (define-record-type T (C) P) (define P 1) 1)", "(lambda () 1 (define-record-type T (C) P))", "(list (define-record-type T (C) P))", "(begin-not (define-record-type T (C) P))", "(if 1 (define-record-type T (C) P))")
	for _, bad := range wrongRecords() {
		refusesAll(t, bodies(), "(lambda () "+bad+" 1)")
	}
}

// wrongRecords are records that may not be, wherever they stand.
func wrongRecords() []string {
	return []string{
		"(define-record-type)", "(define-record-type T)", "(define-record-type T (C))", "(define-record-type 5 (C) P)", "(define-record-type (T) (C) P)", "(define-record-type T C P)", "(define-record-type T () P)", "(define-record-type T (5) P)", "(define-record-type T ((C)) P)", "(define-record-type T (C . a) P (a x))", "(define-record-type T #(C) P)",
		"(define-record-type T (C) 5)", "(define-record-type T (C) (P))", "(define-record-type T (C) P a)", "(define-record-type T (C) P (a))", "(define-record-type T (C) P ())", "(define-record-type T (C) P (a x y z))", "(define-record-type T (C) P (5 x))", "(define-record-type T (C) P (a 5))", "(define-record-type T (C) P (a x 5))", "(define-record-type T (C) P (a x . y))", "(define-record-type T (C) P . a)", "(define-record-type T (C) P (a x) . b)",
		"(define-record-type T (C) P (a x) (a y))", "(define-record-type T (C a a) P (a x))", "(define-record-type T (C b) P (a x))", "(define-record-type T (C x) P (a x))", "(define-record-type T (C a 5) P (a x))", "(define-record-type T (C a (b)) P (a x) (b y))", "(define-record-type T (C) P #(a x))", "(define-record-type . T)",
	}
}
