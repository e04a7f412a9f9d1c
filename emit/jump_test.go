package emit_test

import (
	"testing"

	"athanor/api"
	"athanor/emit"
)

// Promise 14.1: where IFrame, IJump, IFalse lead to.

func TestChoices(t *testing.T) {
	checkAll(t,
		"(seq (if a b c) d)", "IGlobal 0, IFalse 4, IGlobal 1, IJump 5, IGlobal 2, IGlobal 3, IReturn [a, b, c, d]",
		"(set x (if a b c))", "IGlobal 0, IFalse 4, IGlobal 1, IJump 5, IGlobal 2, ISetG 3, IReturn [a, b, c, x]",
		"(if a (app f) (app g))", "IGlobal 0, IFalse 4, IGlobal 1, ICall 0, IGlobal 2, ICall 0 [a, f, g]",
		"(if (app a) b c)", "IFrame 3, IGlobal 0, ICall 0, IFalse 6, IGlobal 1, IReturn, IGlobal 2, IReturn [a, b, c]",
		"(app (if a (app f) (app g)) h)", "IGlobal 0, IFalse 6, IFrame 5, IGlobal 1, ICall 0, IJump 9, IFrame 9, IGlobal 2, ICall 0, IPush, IGlobal 3, ICall 1 [a, f, g, h]",
		"(app a (if b f g))", "IGlobal 0, IPush, IGlobal 1, IFalse 6, IGlobal 2, IJump 7, IGlobal 3, ICall 1 [a, b, f, g]",
		"(define x (if a b c))", "IGlobal 0, IFalse 4, IGlobal 1, IJump 5, IGlobal 2, IDefine 3, IReturn [a, b, c, own x]",
		"(if a (seq b (app f)) (mark k v c))", "IGlobal 0, IFalse 5, IGlobal 1, IGlobal 2, ICall 0, IGlobal 3, IPush, IGlobal 4, IMark, IGlobal 5, IReturn [a, b, f, k, v, c]",
	)
}

func TestChoicesWithinChoices(t *testing.T) {
	checkAll(t,
		"(if (if a b c) (if d e f) (if g h i))", "IGlobal 0, IFalse 4, IGlobal 1, IJump 5, IGlobal 2, IFalse 12, IGlobal 3, IFalse 10, IGlobal 4, IReturn, IGlobal 5, IReturn, IGlobal 6, IFalse 16, IGlobal 7, IReturn, IGlobal 8, IReturn [a, b, c, d, e, f, g, h, i]",
		"(seq (if (if a b c) (if d e f) (if g h i)) j)", "IGlobal 0, IFalse 4, IGlobal 1, IJump 5, IGlobal 2, IFalse 12, IGlobal 3, IFalse 10, IGlobal 4, IJump 11, IGlobal 5, IJump 17, IGlobal 6, IFalse 16, IGlobal 7, IJump 17, IGlobal 8, IGlobal 9, IReturn [a, b, c, d, e, f, g, h, i, j]",
		"(if a (if b c d) e)", "IGlobal 0, IFalse 8, IGlobal 1, IFalse 6, IGlobal 2, IReturn, IGlobal 3, IReturn, IGlobal 4, IReturn [a, b, c, d, e]",
		"(if a b (if c d e))", "IGlobal 0, IFalse 4, IGlobal 1, IReturn, IGlobal 2, IFalse 8, IGlobal 3, IReturn, IGlobal 4, IReturn [a, b, c, d, e]",
	)
}

func TestFramesWithinFrames(t *testing.T) {
	checkAll(t,
		"(seq (app (app a) (app b)) c)", "IFrame 9, IFrame 4, IGlobal 0, ICall 0, IPush, IFrame 8, IGlobal 1, ICall 0, ICall 1, IGlobal 2, IReturn [a, b, c]",
		"(seq (app (if a (app f) b) g) c)", "IFrame 11, IGlobal 0, IFalse 7, IFrame 6, IGlobal 1, ICall 0, IJump 8, IGlobal 2, IPush, IGlobal 3, ICall 1, IGlobal 4, IReturn [a, f, b, g, c]",
		"(seq (mark (app a) b (mark c d (if e (app f) g))) h)", "IFrame 17, IFrame 4, IGlobal 0, ICall 0, IPush, IGlobal 1, IMark, IGlobal 2, IPush, IGlobal 3, IMark, IGlobal 4, IFalse 15, IGlobal 5, ICall 0, IGlobal 6, IReturn, IGlobal 7, IReturn [a, b, c, d, e, f, g, h]",
		"(app (lambda () (app (app f))) (app g))", "IClose 0, IPush, IFrame 5, IGlobal 1, ICall 0, ICall 1 [{IFrame 3, IGlobal 0, ICall 0, ICall 0 [f]}, g]",
	)
}

// Whatever stands ahead, each jump leads further on, and to an instruction that is there.
func TestJumpsLeadOn(t *testing.T) {
	s := newSampler(141)
	jumps := 0
	for range 3000 {
		code, err := emit.Emit(s.whole(6))
		if err != api.OK {
			t.Fatal(err)
		}
		each(code, func(c api.Code) {
			for at, i := range c.Ins {
				if i.Op == api.IFrame || i.Op == api.IJump || i.Op == api.IFalse {
					jumps++
					if i.A <= at || i.A >= len(c.Ins) {
						t.Fatalf("%s: %d leads to %d", show(c), at, i.A)
					}
				}
			}
		})
	}
	if jumps < 3000 {
		t.Errorf("%d jumps alone", jumps)
	}
}

// each goes through a code and all codes within it.
func each(c api.Code, do func(c api.Code)) {
	do(c)
	for _, k := range c.Consts {
		if k.Kind == api.KCode {
			each(k.Code, do)
		}
	}
}
