package expand_test

import "testing"

// Promise 13.1: derived forms, row by row.

func TestLet(t *testing.T) {
	checkAll(t, plain(),
		"(let () 1)", "(app (lambda () '1))", "(let ((x 1) (y v)) (x y))", "(app '1 v (lambda (1 2) (app 2 1)))", "(let ((x 1)) 2 x)", "(app '1 (lambda (1) (seq '2 1)))",
		"(let ((x x)) x)", "(app x (lambda (1) 1))", "(let ((x 1)) (let ((x x) (y x)) x))", "(app '1 (lambda (1) (app 1 1 (lambda (2 3) 2))))", "(let ((let 1)) (let 2))", "(app '1 (lambda (1) (app '2 1)))",
		"(let ((x 1)) (define y x) y)", "(app '1 (lambda (1) (app unset (lambda (2) (seq (set 2 1) 2)))))", "(let ((lambda 1)) lambda)", "(app '1 (lambda (1) 1))",
	)
	refusesAll(t, plain(), "(let)", "(let 5 1)", "(let ())", "(let ((x 1)))", "(let ((x 1) (x 2)) x)", "(let ((x)) 1)", "(let ((x 1 2)) 1)", "(let (x) 1)", "(let ((5 1)) 1)", "(let ((x 1) . y) 1)", "(let ((x . 1)) 1)", "(let ((x 1 . 2)) 1)", "(let #() 1)", "(let () . 1)", "(let (((x) 1)) x)", "(let ((x if)) x)")
}

func TestLetWithAName(t *testing.T) {
	checkAll(t, plain(),
		"(let f () 1)", "(app (app unset (lambda (1) (seq (set 1 (lambda () '1)) 1))))",
		"(let f ((x 1) (y v)) (f y x))", "(app '1 v (app unset (lambda (1) (seq (set 1 (lambda (2 3) (app 3 2 1))) 1))))",
		"(let f ((f f)) f)", "(app f (app unset (lambda (1) (seq (set 1 (lambda (2) 2)) 1))))", "(let f ((x f)) 1 f)", "(app f (app unset (lambda (1) (seq (set 1 (lambda (2) (seq '1 1))) 1))))",
		"(let let ((x 1)) (let x))", "(app '1 (app unset (lambda (1) (seq (set 1 (lambda (2) (app 2 1))) 1))))", "(let if () (if 1))", "(app (app unset (lambda (1) (seq (set 1 (lambda () (app '1 1))) 1))))",
		"(let f () (define f 1) f)", "(app (app unset (lambda (1) (seq (set 1 (lambda () (app unset (lambda (2) (seq (set 2 '1) 2))))) 1))))",
	)
	refusesAll(t, plain(), "(let f)", "(let f ())", "(let f 5 1)", "(let f ((x 1) (x 2)) 1)", "(let f (x) 1)", "(let f ((x)) 1)", "(let f g 1)", "(let f ((5 1)) 1)", "(let f ((x 1)))", "(let f () . 1)", "(let f . 1)")
}

func TestLetStar(t *testing.T) {
	checkAll(t, plain(),
		"(let* () 1)", "(app (lambda () '1))", "(let* ((x 1)) x)", "(app '1 (lambda (1) (app (lambda () 1))))", "(let* ((x 1) (y x)) (x y))", "(app '1 (lambda (1) (app 1 (lambda (2) (app (lambda () (app 2 1)))))))",
		"(let* ((x 1) (x x)) x)", "(app '1 (lambda (1) (app 1 (lambda (2) (app (lambda () 2))))))", "(let* ((x x)) 1 2)", "(app x (lambda (1) (app (lambda () (seq '1 '2)))))", "(let* ((let 1) (lambda let)) lambda)", "(app '1 (lambda (1) (app 1 (lambda (2) (app (lambda () 2))))))",
		"(let* ((x 1)) (define x 2) x)", "(app '1 (lambda (1) (app (lambda () (app unset (lambda (2) (seq (set 2 '2) 2)))))))",
	)
	refusesAll(t, plain(), "(let*)", "(let* ())", "(let* ((x 1)))", "(let* f () 1)", "(let* ((x)) 1)", "(let* ((x 1 2)) 1)", "(let* (x) 1)", "(let* ((5 1)) 1)", "(let* ((x 1) (5 1)) 1)", "(let* ((x 1) . y) 1)", "(let* x 1)", "(let* 5 1)", "(let* () . 1)")
}

func TestLetrec(t *testing.T) {
	for _, name := range []string{"letrec", "letrec*"} {
		checkAll(t, plain(),
			"("+name+" () 1)", "(app (lambda () '1))", "("+name+" () 1 2)", "(app (lambda () (seq '1 '2)))", "("+name+" ((x 1)) x)", "(app unset (lambda (1) (seq (set 1 '1) 1)))",
			"("+name+" ((x y) (y x)) 1 2)", "(app unset unset (lambda (1 2) (seq (set 1 2) (set 2 1) (seq '1 '2))))", "("+name+" ((x (lambda (x) x))) (define y x) y)", "(app unset (lambda (1) (seq (set 1 (lambda (2) 2)) (app unset (lambda (3) (seq (set 3 1) 3))))))",
			"("+name+" ((set! 1) (begin 2)) (set! begin))", "(app unset unset (lambda (1 2) (seq (set 1 '1) (set 2 '2) (app 2 1))))",
		)
		refusesAll(t, plain(), "("+name+")", "("+name+" ())", "("+name+" ((x 1)))", "("+name+" ((x 1) (x 2)) 1)", "("+name+" ((x)) 1)", "("+name+" ((x 1 2)) 1)", "("+name+" (x) 1)", "("+name+" ((5 1)) 1)", "("+name+" f () 1)", "("+name+" ((x 1) . y) 1)", "("+name+" () . 1)")
	}
}

func TestAndOr(t *testing.T) {
	checkAll(t, plain(),
		"(and)", "'#t", "(and v)", "v", "(and 1 2)", "(if '1 '2 '#f)", "(and 1 2 3)", "(if '1 (if '2 '3 '#f) '#f)", "(and (and) (and 1))", "(if '#t '1 '#f)",
		"(or)", "'#f", "(or v)", "v", "(or 1 2)", "(app '1 (lambda (1) (if 1 1 '2)))", "(or 1 2 3)", "(app '1 (lambda (1) (if 1 1 (app '2 (lambda (2) (if 2 2 '3))))))", "(or (or) (or 1))", "(app '#f (lambda (1) (if 1 1 '1)))",
		"(let ((t 1)) (or 2 t))", "(app '1 (lambda (1) (app '2 (lambda (2) (if 2 2 1)))))", "(let ((if 1)) (and if if))", "(app '1 (lambda (1) (if 1 1 '#f)))",
	)
	refusesAll(t, plain(), "(and . 1)", "(and 1 . 2)", "(or . 1)", "(or 1 . 2)", "(and if)", "(or 1 if)", "(and 1 if)", "(or if 1)", "(and if 1)")
}

func TestCond(t *testing.T) {
	checkAll(t, plain(),
		"(cond)", "'#<void>", "(cond (else 1))", "'1", "(cond (else 1 2))", "(seq '1 '2)", "(cond (1))", "(app '1 (lambda (1) (if 1 1 '#<void>)))", "(cond (1) (2))", "(app '1 (lambda (1) (if 1 1 (app '2 (lambda (2) (if 2 2 '#<void>))))))",
		"(cond (1 => v))", "(app '1 (lambda (1) (if 1 (app 1 v) '#<void>)))", "(cond (1 => v) (else 2))", "(app '1 (lambda (1) (if 1 (app 1 v) '2)))", "(cond (1 2))", "(if '1 '2 '#<void>)", "(cond (1 2 3) (4 5) (else 6))", "(if '1 (seq '2 '3) (if '4 '5 '6))",
		"(lambda (t) (cond (1 => t) (t)))", "(lambda (1) (app '1 (lambda (2) (if 2 (app 2 1) (app 1 (lambda (3) (if 3 3 '#<void>)))))))",
		"(lambda (else) (cond (else 1) (2 3)))", "(lambda (1) (if 1 '1 (if '2 '3 '#<void>)))", "(lambda (else) (cond (else 1)))", "(lambda (1) (if 1 '1 '#<void>))", "(lambda (else) (cond (else)))", "(lambda (1) (app 1 (lambda (2) (if 2 2 '#<void>))))",
		"(lambda (=>) (cond (1 => 2)))", "(lambda (1) (if '1 (seq 1 '2) '#<void>))", "(lambda (v) (cond ((v) v)))", "(lambda (1) (if (app 1) 1 '#<void>))", "(cond (1 => (lambda (x) x)))", "(app '1 (lambda (1) (if 1 (app 1 (lambda (2) 2)) '#<void>)))",
	)
	refusesAll(t, plain(), "(cond 5)", "(cond ())", "(cond v)", "(cond #(1))", "(cond (else))", "(cond (else 1) (2 3))", "(cond (else 1) (else 2))", "(cond (1 =>))", "(cond (1 => v v))", "(cond (1 2 => v))", "(cond (else => v))", "(cond (=> 1))", "(cond (1 else))", "(cond (1 . 2))", "(cond (1 2 . 3))", "(cond (1) . 2)", "(cond . 1)", "(cond (1 2) 3)", "(cond (1 2) ())", "(cond (if))", "(cond (1 => if))", "(cond (else 1) 2)")
}

func TestCase(t *testing.T) {
	checkAll(t, plain(),
		"(case v)", "(app v (lambda (1) '#<void>))", "(case v (else 1))", "(app v (lambda (1) '1))", "(case v (else 1 2))", "(app v (lambda (1) (seq '1 '2)))",
		"(case v (() 1))", "(app v (lambda (1) (if '#f '1 '#<void>)))", "(case v ((a) 1))", "(app v (lambda (1) (if (if (app 1 'a :eqv?) '#t '#f) '1 '#<void>)))",
		"(case v ((a (b . c) #(d)) 1 2) ((5) 3) (else 4))", "(app v (lambda (1) (if (if (app 1 'a :eqv?) '#t (if (app 1 '(b . c) :eqv?) '#t (if (app 1 '#(d) :eqv?) '#t '#f))) (seq '1 '2) (if (if (app 1 '5 :eqv?) '#t '#f) '3 '4))))",
		"(lambda (t eqv? else) (case t ((1) t) ((else) eqv?)))", "(lambda (1 2 3) (app 1 (lambda (4) (if (if (app 4 '1 :eqv?) '#t '#f) 1 (if (if (app 4 'else :eqv?) '#t '#f) 2 '#<void>)))))",
		"(case v ((if else =>) 1))", "(app v (lambda (1) (if (if (app 1 'if :eqv?) '#t (if (app 1 'else :eqv?) '#t (if (app 1 '=> :eqv?) '#t '#f))) '1 '#<void>)))",
	)
	refusesAll(t, plain(), "(case)", "(case . 1)", "(case v 5)", "(case v ())", "(case v (a 1))", "(case v (5 1))", "(case v (else))", "(case v (else 1) ((a) 2))", "(case v (else 1) (else 2))", "(case v ((a)))", "(case v ((a) . 1))", "(case v ((a . b) 1))", "(case v ((a) => v))", "(case v (else => v))", "(case v (#(a) 1))", "(case if)", "(case v . 1)", "(case v ((a) 1) . 2)",
		"(lambda (else) (case v (else 1)))")
}

func TestWhenUnless(t *testing.T) {
	checkAll(t, plain(),
		"(when v 1)", "(if v '1 '#<void>)", "(when v 1 2)", "(if v (seq '1 '2) '#<void>)", "(unless v 1)", "(if v '#<void> '1)", "(unless v 1 2)", "(if v '#<void> (seq '1 '2))",
	)
	refusesAll(t, plain(), "(when)", "(when 1)", "(when . 1)", "(when 1 . 2)", "(when 1 2 . 3)", "(unless)", "(unless 1)", "(unless . 1)", "(unless 1 . 2)", "(unless 1 2 . 3)", "(when if 1)", "(unless 1 if)")
}

func TestDo(t *testing.T) {
	checkAll(t, plain(),
		"(do () (v))", "(app (app unset (lambda (1) (seq (set 1 (lambda () (if v '#<void> (app 1)))) 1))))",
		"(do ((i 0 (car i))) (i 1 2) 3 4)", "(app '0 (app unset (lambda (1) (seq (set 1 (lambda (2) (if 2 (seq '1 '2) (seq '3 '4 (app (app 2 :car) 1))))) 1))))",
		"(do ((i 0) (j v i)) (i j) i)", "(app '0 v (app unset (lambda (1) (seq (set 1 (lambda (2 3) (if 2 3 (seq 2 (app 2 2 1))))) 1))))",
		"(do ((i i i) (loop i)) (loop))", "(app i i (app unset (lambda (1) (seq (set 1 (lambda (2 3) (if 3 '#<void> (app 2 3 1)))) 1))))",
		"(do ((if 1)) (if if) if)", "(app '1 (app unset (lambda (1) (seq (set 1 (lambda (2) (if 2 2 (seq 2 (app 2 1))))) 1))))",
	)
	refusesAll(t, plain(), "(do)", "(do ())", "(do () ())", "(do () 5)", "(do 5 (1))", "(do (i) (1))", "(do ((i)) (1))", "(do ((i 1 2 3)) (1))", "(do ((5 1)) (1))", "(do ((i 1) (i 2)) (1))", "(do ((i 1) . j) (1))", "(do ((i 1 . 2)) (1))", "(do () (1 . 2))", "(do () (1) . 2)", "(do () (1) (define x 2))", "(do () (1 (define x 2)) 3)", "(do ((i if)) (1))", "(do ((i 1 if)) (1))", "(do x (1))", "(do (()) (1))")
}

func TestParameterize(t *testing.T) {
	checkAll(t, plain(),
		"(parameterize () 1)", "(app (app :list) (lambda () '1) :%with-parameters)", "(parameterize ((v 1)) v 2)", "(app (app (app v '1 :cons) :list) (lambda () (seq v '2)) :%with-parameters)",
		"(parameterize (((v) 1) (v 2)) (define x 3) x)", "(app (app (app (app v) '1 :cons) (app v '2 :cons) :list) (lambda () (app unset (lambda (1) (seq (set 1 '3) 1)))) :%with-parameters)",
		"(lambda (cons list %with-parameters) (parameterize ((cons list)) list))", "(lambda (1 2 3) (app (app (app 1 2 :cons) :list) (lambda () 2) :%with-parameters))",
	)
	refusesAll(t, plain(), "(parameterize)", "(parameterize ())", "(parameterize ((v 1)))", "(parameterize (v) 1)", "(parameterize ((v)) 1)", "(parameterize ((v 1 2)) 1)", "(parameterize ((v . 1)) 1)", "(parameterize ((v 1) . 2) 1)", "(parameterize v 1)", "(parameterize () . 1)", "(parameterize ((if 1)) 1)", "(parameterize ((v if)) 1)", "(parameterize ((v 1)) if)")
}

func TestGuard(t *testing.T) {
	// guard is what is made of what stands for the clauses, with k, x, j as 1, 2, 3, and for the body
	guard := func(clauses, body, r string) string {
		handler := "(lambda (2) (app (app (lambda (3) (app (lambda () " + clauses + ") 1)) :call/cc)))"
		guarded := "(lambda () (app (lambda () " + body + ") (lambda ( . " + r + ") (app (lambda () (app :values " + r + " :apply)) 1)) :call-with-values))"
		return "(app (app (lambda (1) (app " + handler + " " + guarded + " :with-exception-handler)) :call/cc))"
	}
	raised := "(app (lambda () (app 2 :raise-continuable)) 3)"
	checkAll(t, plain(),
		"(guard (x) 1)", guard(raised, "'1", "4"), "(guard (x (else x)) v 2)", guard("2", "(seq v '2)", "4"), "(guard (x (v 1 x)) x)", guard("(if v (seq '1 2) "+raised+")", "x", "4"),
		"(guard (x (1 => x) (x) (2 3)) 4)", guard("(app '1 (lambda (4) (if 4 (app 4 2) (app 2 (lambda (5) (if 5 5 (if '2 '3 "+raised+")))))))", "'4", "6"),
		"(guard (x (v (x 1)) (else 2 3)) (define y 1) y)", guard("(if v (app '1 2) (seq '2 '3))", "(app unset (lambda (4) (seq (set 4 '1) 4)))", "5"),
		"(guard (else (else 1)) 2)", guard("(if 2 '1 "+raised+")", "'2", "4"), "(guard (=> (1 => 2)) 3)", guard("(if '1 (seq 2 '2) "+raised+")", "'3", "4"),
		"(guard (x ((raise-continuable) 1)) (lambda (call/cc) call/cc))", guard("(if (app :raise-continuable) '1 "+raised+")", "(lambda (4) 4)", "5"),
	)
	checkTop(t, plain(), "(lambda (k j r values) (guard (x (k j)) r values))", "(lambda (1 2 3 4) (app (app (lambda (5) (app (lambda (6) (app (app (lambda (7) (app (lambda () (if 1 2 (app (lambda () (app 6 :raise-continuable)) 7))) 5)) :call/cc))) "+
		"(lambda () (app (lambda () (seq 3 4)) (lambda ( . 8) (app (lambda () (app :values 8 :apply)) 5)) :call-with-values)) :with-exception-handler)) :call/cc)))")
	refusesAll(t, plain(), "(guard)", "(guard ())", "(guard () 1)", "(guard x 1)", "(guard (x))", "(guard (5) 1)", "(guard ((x)) 1)", "(guard (x . 1) 1)", "(guard (x 5) 1)", "(guard (x ()) 1)", "(guard (x (else)) 1)", "(guard (x (else 1) (2 3)) 1)", "(guard (x (1 . 2)) 1)", "(guard (x) . 1)", "(guard (x (if)) 1)", "(guard (x (1 => if)) 1)", "(guard (x) if)", "(guard #(x) 1)")
}
