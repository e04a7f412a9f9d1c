package emit_test

import (
	"testing"

	"athanor/api"
)

// Promise 14.1: the table, row by row.

func TestExamples(t *testing.T) {
	checkAll(t,
		"(app '1 f)", "IConst 0, IPush, IGlobal 1, ICall 1 ['1, f]",
		"(if a b c)", "IGlobal 0, IFalse 4, IGlobal 1, IReturn, IGlobal 2, IReturn [a, b, c]",
	)
}

func TestConstants(t *testing.T) {
	checkAll(t,
		"'5", "IConst 0, IReturn ['5]",
		"'(a \"b\" . #(c))", "IConst 0, IReturn ['(a \"b\" . #(c))]",
		"'#0=(a . #0#)", "IConst 0, IReturn ['#0=(a . #0#)]",
		"(seq '5 '5)", "IConst 0, IConst 1, IReturn ['5, '5]",
	)
}

func TestGlobals(t *testing.T) {
	checkAll(t,
		"x", "IGlobal 0, IReturn [x]",
		"x@3", "IGlobal 0, IReturn [x@3]",
		"x@-3", "IGlobal 0, IReturn [x@-3]",
		"(seq x x x@1 x)", "IGlobal 0, IGlobal 1, IGlobal 2, IGlobal 3, IReturn [x, x, x@1, x]",
		"(set x '1)", "IConst 0, ISetG 1, IReturn ['1, x]",
		"(set x@2 y@1)", "IGlobal 0, ISetG 1, IReturn [y@1, x@2]",
		"(set x (set y z))", "IGlobal 0, ISetG 1, ISetG 2, IReturn [z, y, x]",
		"(seq (set x y) z)", "IGlobal 0, ISetG 1, IGlobal 2, IReturn [y, x, z]",
		"(define x '1)", "IConst 0, IDefine 1, IReturn ['1, own x]",
		"(define x@2 y)", "IGlobal 0, IDefine 1, IReturn [y, own x@2]",
		"(define x (set y z))", "IGlobal 0, ISetG 1, IDefine 2, IReturn [z, y, own x]",
		"(define x (app y))", "IFrame 3, IGlobal 0, ICall 0, IDefine 1, IReturn [y, own x]",
		"(define x (lambda (1) 1))", "IClose 0, IDefine 1, IReturn [{1: ILocal 0 0, IReturn}, own x]",
	)
}

func TestPrimitivesAndUnset(t *testing.T) {
	checkAll(t,
		":cons", "IPrim 0, IReturn",
		":car", "IPrim 1, IReturn",
		":load-string", "IPrim 127, IReturn",
		"(seq :cons :cdr)", "IPrim 0, IPrim 2, IReturn",
		"(app unset :car)", "IUnset, IPush, IPrim 1, ICall 1",
		"unset", "IUnset, IReturn",
		"(seq unset unset)", "IUnset, IUnset, IReturn",
	)
	for n, name := range api.Prims {
		if got, want := answer(prim(n)), show(api.Code{Ins: []api.Ins{{Op: api.IPrim, A: n}, {Op: api.IReturn}}}); got != want {
			t.Errorf("%s: %s, want %s", name, got, want)
		}
	}
}

func TestLocals(t *testing.T) {
	checkAll(t,
		"(lambda (1) 1)", "IClose 0, IReturn [{1: ILocal 0 0, IReturn}]",
		"(lambda (1 2 3) (seq 3 1 2))", "IClose 0, IReturn [{3: ILocal 0 2, ILocal 0 0, ILocal 0 1, IReturn}]",
		"(lambda (1 2 . 3) (seq 3 1 2))", "IClose 0, IReturn [{2+: ILocal 0 2, ILocal 0 0, ILocal 0 1, IReturn}]",
		"(lambda 7 7)", "IClose 0, IReturn [{0+: ILocal 0 0, IReturn}]",
		"(lambda (1 2) (lambda (3 . 4) (lambda 5 (app 1 2 3 4 5))))", "IClose 0, IReturn [{2: IClose 0, IReturn [{1+: IClose 0, IReturn [{0+: ILocal 2 0, IPush, ILocal 2 1, IPush, ILocal 1 0, IPush, ILocal 1 1, IPush, ILocal 0 0, ICall 4}]}]}]",
		"(lambda (1) (lambda () 1))", "IClose 0, IReturn [{1: IClose 0, IReturn [{ILocal 1 0, IReturn}]}]",
		"(lambda (1) (set 1 '5))", "IClose 0, IReturn [{1: IConst 0, ISet 0 0, IReturn ['5]}]",
		"(lambda (1 2) (lambda (3) (seq (set 2 3) (set 3 1))))", "IClose 0, IReturn [{2: IClose 0, IReturn [{1: ILocal 0 0, ISet 1 1, ILocal 1 0, ISet 0 0, IReturn}]}]",
		"(lambda (1 . 2) (set 2 (set 1 2)))", "IClose 0, IReturn [{1+: ILocal 0 1, ISet 0 0, ISet 0 1, IReturn}]",
		"(lambda (1) (seq (lambda (2) 2) (lambda (3) 1) 1))", "IClose 0, IReturn [{1: IClose 0, IClose 1, ILocal 0 0, IReturn [{1: ILocal 0 0, IReturn}, {1: ILocal 1 0, IReturn}]}]",
		"(app unset (lambda (1) (seq (set 1 '5) 1)))", "IUnset, IPush, IClose 0, ICall 1 [{1: IConst 0, ISet 0 0, ILocal 0 0, IReturn ['5]}]",
	)
}

// A lambda within another one may bind a number that is bound around: the innermost counts. Numbers may be any, but a Rest of 0 is none.
func TestNumbersOfLocals(t *testing.T) {
	checkAll(t,
		"(lambda (1 2) (lambda (2) (app 1 2)))", "IClose 0, IReturn [{2: IClose 0, IReturn [{1: ILocal 1 0, IPush, ILocal 0 0, ICall 1}]}]",
		"(lambda (1) (seq (lambda (1) (set 1 1)) 1))", "IClose 0, IReturn [{1: IClose 0, ILocal 0 0, IReturn [{1: ILocal 0 0, ISet 0 0, IReturn}]}]",
		"(lambda 1 (app (lambda (2 1) 1) (lambda 1 1) 1))", "IClose 0, IReturn [{0+: IClose 0, IPush, IClose 1, IPush, ILocal 0 0, ICall 2 [{2: ILocal 0 1, IReturn}, {0+: ILocal 0 0, IReturn}]}]",
		"(seq (lambda (1) 1) (lambda (2 1) 1))", "IClose 0, IClose 1, IReturn [{1: ILocal 0 0, IReturn}, {2: ILocal 0 1, IReturn}]",
		"(lambda (0) 0)", "IClose 0, IReturn [{1: ILocal 0 0, IReturn}]",
		"(lambda (0 -1 . -2) (seq -2 -1 0))", "IClose 0, IReturn [{2+: ILocal 0 2, ILocal 0 1, ILocal 0 0, IReturn}]",
		"(lambda (9223372036854775807 . -9223372036854775808) (seq 9223372036854775807 -9223372036854775808))", "IClose 0, IReturn [{1+: ILocal 0 0, ILocal 0 1, IReturn}]",
	)
}

func TestLambdas(t *testing.T) {
	checkAll(t,
		"(lambda () x)", "IClose 0, IReturn [{IGlobal 0, IReturn [x]}]",
		"(lambda () (app f))", "IClose 0, IReturn [{IGlobal 0, ICall 0 [f]}]",
		"(lambda (1 2) x)", "IClose 0, IReturn [{2: IGlobal 0, IReturn [x]}]",
		"(lambda (1 2 . 3) x)", "IClose 0, IReturn [{2+: IGlobal 0, IReturn [x]}]",
		"(seq a (lambda () b) c)", "IGlobal 0, IClose 1, IGlobal 2, IReturn [a, {IGlobal 0, IReturn [b]}, c]",
		"(lambda () (seq a (lambda () b) c))", "IClose 0, IReturn [{IGlobal 0, IClose 1, IGlobal 2, IReturn [a, {IGlobal 0, IReturn [b]}, c]}]",
		"(app (lambda () x) (lambda () y))", "IClose 0, IPush, IClose 1, ICall 1 [{IGlobal 0, IReturn [x]}, {IGlobal 0, IReturn [y]}]",
	)
}

func TestSequences(t *testing.T) {
	checkAll(t,
		"(seq a)", "IGlobal 0, IReturn [a]",
		"(seq a b c)", "IGlobal 0, IGlobal 1, IGlobal 2, IReturn [a, b, c]",
		"(seq (app f))", "IGlobal 0, ICall 0 [f]",
		"(seq (app f) (app g))", "IFrame 3, IGlobal 0, ICall 0, IGlobal 1, ICall 0 [f, g]",
		"(seq (seq a (seq b c)) (seq d (app f)))", "IGlobal 0, IGlobal 1, IGlobal 2, IGlobal 3, IGlobal 4, ICall 0 [a, b, c, d, f]",
		"(app (seq a b) f)", "IGlobal 0, IGlobal 1, IPush, IGlobal 2, ICall 1 [a, b, f]",
		"(app (seq (app a)) f)", "IFrame 3, IGlobal 0, ICall 0, IPush, IGlobal 1, ICall 1 [a, f]",
		"(seq (seq (seq (app f))))", "IGlobal 0, ICall 0 [f]",
	)
}

func TestCalls(t *testing.T) {
	checkAll(t,
		"(app f)", "IGlobal 0, ICall 0 [f]",
		"(app a f)", "IGlobal 0, IPush, IGlobal 1, ICall 1 [a, f]",
		"(app a b c f)", "IGlobal 0, IPush, IGlobal 1, IPush, IGlobal 2, IPush, IGlobal 3, ICall 3 [a, b, c, f]",
		"(app (app f))", "IFrame 3, IGlobal 0, ICall 0, ICall 0 [f]",
		"(app (app a f) g)", "IFrame 5, IGlobal 0, IPush, IGlobal 1, ICall 1, IPush, IGlobal 2, ICall 1 [a, f, g]",
		"(app (app (app a f) g) h)", "IFrame 9, IFrame 6, IGlobal 0, IPush, IGlobal 1, ICall 1, IPush, IGlobal 2, ICall 1, IPush, IGlobal 3, ICall 1 [a, f, g, h]",
		"(set x (app f))", "IFrame 3, IGlobal 0, ICall 0, ISetG 1, IReturn [f, x]",
		"(app x (lambda (1) (app 1 (app 1 f))))", "IGlobal 0, IPush, IClose 1, ICall 1 [x, {1: ILocal 0 0, IPush, IFrame 7, ILocal 0 0, IPush, IGlobal 0, ICall 1, ICall 1 [f]}]",
	)
}

func TestMarks(t *testing.T) {
	checkAll(t,
		"(mark k v b)", "IGlobal 0, IPush, IGlobal 1, IMark, IGlobal 2, IReturn [k, v, b]",
		"(mark k v (app f))", "IGlobal 0, IPush, IGlobal 1, IMark, IGlobal 2, ICall 0 [k, v, f]",
		"(mark k v (mark l w b))", "IGlobal 0, IPush, IGlobal 1, IMark, IGlobal 2, IPush, IGlobal 3, IMark, IGlobal 4, IReturn [k, v, l, w, b]",
		"(seq (mark k v b) c)", "IFrame 7, IGlobal 0, IPush, IGlobal 1, IMark, IGlobal 2, IReturn, IGlobal 3, IReturn [k, v, b, c]",
		"(seq (mark k v (app f)) c)", "IFrame 7, IGlobal 0, IPush, IGlobal 1, IMark, IGlobal 2, ICall 0, IGlobal 3, IReturn [k, v, f, c]",
		"(mark (app a) (app b) c)", "IFrame 3, IGlobal 0, ICall 0, IPush, IFrame 7, IGlobal 1, ICall 0, IMark, IGlobal 2, IReturn [a, b, c]",
		"(mark (mark k v b) w c)", "IFrame 7, IGlobal 0, IPush, IGlobal 1, IMark, IGlobal 2, IReturn, IPush, IGlobal 3, IMark, IGlobal 4, IReturn [k, v, b, w, c]",
		"(mark k (mark l v b) c)", "IGlobal 0, IPush, IFrame 9, IGlobal 1, IPush, IGlobal 2, IMark, IGlobal 3, IReturn, IMark, IGlobal 4, IReturn [k, l, v, b, c]",
		"(app (mark k v b) f)", "IFrame 7, IGlobal 0, IPush, IGlobal 1, IMark, IGlobal 2, IReturn, IPush, IGlobal 3, ICall 1 [k, v, b, f]",
		"(lambda (1) (mark 1 1 1))", "IClose 0, IReturn [{1: ILocal 0 0, IPush, ILocal 0 0, IMark, ILocal 0 0, IReturn}]",
	)
}
