package emit_test

import (
	"slices"
	"testing"

	"athanor/api"
	"athanor/emit"
	"athanor/expand"
	"athanor/graph"
	"athanor/read"
	"athanor/rules"
)

// Promise 14.2: as many frames are made as there are calls and marks that do not stand in tail position.

// framed counts the calls and marks that do not stand in tail position.
func framed(c api.Core, tail bool) int {
	n := 0
	if (c.Op == api.CApp || c.Op == api.CMark) && !tail {
		n++
	}
	for i, k := range c.Kids {
		switch c.Op {
		case api.CLambda:
			n += framed(k, true)
		case api.CIf:
			n += framed(k, tail && i > 0)
		case api.CSeq:
			n += framed(k, tail && i == len(c.Kids)-1)
		case api.CMark:
			n += framed(k, i == 2) // whose body stands in tail position of the mark's own frame
		default:
			n += framed(k, false)
		}
	}
	return n
}

// made counts the instructions of a kind, in all codes.
func made(c api.Code, op int) int {
	n := 0
	each(c, func(c api.Code) {
		for _, i := range c.Ins {
			if i.Op == op {
				n++
			}
		}
	})
	return n
}

// counted counts the core forms of a kind.
func counted(c api.Core, op int) int {
	n := 0
	for _, at := range places(&c) {
		if at.Op == op {
			n++
		}
	}
	return n
}

// checkFrames holds how many frames, calls and marks are made.
func checkFrames(t *testing.T, what string, c api.Core) int {
	t.Helper()
	code, err := emit.Emit(c)
	if err != api.OK {
		t.Fatalf("%s: error %d", what, err)
	}
	frames := made(code, api.IFrame)
	if frames != framed(c, true) || made(code, api.ICall) != counted(c, api.CApp) || made(code, api.IMark) != counted(c, api.CMark) {
		t.Fatalf("%s: %s", what, show(code))
	}
	return frames
}

func TestFramesOfSources(t *testing.T) {
	for source, want := range map[string]int{
		"(app f)": 0, "(app '1 f)": 0, "(if a (app f) (app g))": 0, "(if a (seq b (app f)) (if c (app g) (mark k v (app h))))": 0, "(seq a b (app f))": 0, "(mark k v (app f))": 0, "(mark k v (mark k v (mark k v (app f))))": 0,
		"(lambda (1) (app 1 f))": 0, "(lambda (1) (if 1 (app 1 f) (seq 1 (app 1 g))))": 0, "(seq (lambda () (app f)) (app (lambda () (app f)) (lambda () (mark k v (app f)))))": 0, "(set x (lambda () (app f)))": 0, "(define x (lambda () (app f)))": 0,
		"(seq (app f) b)": 1, "(app (app f))": 1, "(app (app f) g)": 1, "(app f (app g))": 1, "(app (app f) (app g) (app h))": 3, "(if (app f) b c)": 1, "(seq (if a (app f) (app g)) b)": 2, "(seq (mark k v (app f)) b)": 1, "(seq (mark k v b) c)": 1, "(mark (app f) (app g) (app h))": 2, "(mark (mark k v b) v b)": 1, "(mark k (mark k v b) b)": 1,
		"(set x (app f))": 1, "(define x (app f))": 1, "(define x (mark k v (app f)))": 1, "(lambda (1) (set 1 (app f)))": 1, "(seq (mark k v (mark k v (app f))) b)": 1, "(app (lambda () (app (app f))))": 1, "(seq (seq (seq (app f))) (seq (app g)))": 1,
	} {
		if got := checkFrames(t, source, coreOf(source)); got != want {
			t.Errorf("%s: %d frames, not %d", source, got, want)
		}
	}
}

func TestFramesOfRandomForms(t *testing.T) {
	s := newSampler(143)
	all := 0
	for range 5000 {
		all += checkFrames(t, "random", s.whole(6))
	}
	if all < 20000 {
		t.Errorf("%d frames alone", all)
	}
}

// Other numbers for the locals change nothing.

// renamed is a core form in which each binding has the number that next tells.
func renamed(c api.Core, names map[int]int, next func() int) api.Core {
	inner := map[int]int{}
	for k, v := range names {
		inner[k] = v
	}
	for _, n := range ribOf(c) {
		inner[n] = next()
	}
	c.Params = slices.Clone(c.Params)
	for i, n := range c.Params {
		c.Params[i] = inner[n]
	}
	if c.Rest != 0 {
		c.Rest = inner[c.Rest]
	}
	if c.Op == api.CLocal || c.Op == api.CSet {
		c.Var = names[c.Var]
	}
	c.Kids = slices.Clone(c.Kids)
	for i, k := range c.Kids {
		c.Kids[i] = renamed(k, inner, next)
	}
	return c
}

func TestOtherNumbersForLocals(t *testing.T) {
	s := newSampler(144)
	for range 4000 {
		c := s.whole(6)
		up, down := 0, -100
		for what, next := range map[string]func() int{
			"counted on": func() int { up++; return up }, "counted back": func() int { down--; return down }, "at random": func() int { return 1 + int(s.Int63n(1<<62)) },
		} {
			if got, want := answer(renamed(c, nil, next)), answer(c); got != want || got == "ErrSyntax" {
				t.Fatalf("%s: %s, not %s", what, got, want)
			}
		}
		shifted := map[int]int{} // the same number for all that had the same
		for n := range 10 {
			shifted[n] = 1000 - 7*n
		}
		if got, want := answer(shiftedBy(c, shifted)), answer(c); got != want {
			t.Fatalf("shifted: %s, not %s", got, want)
		}
	}
}

// shiftedBy is a core form in which each number is another one.
func shiftedBy(c api.Core, to map[int]int) api.Core {
	c.Params = slices.Clone(c.Params)
	for i, n := range c.Params {
		c.Params[i] = to[n]
	}
	if c.Rest != 0 {
		c.Rest = to[c.Rest]
	}
	c.Var = to[c.Var]
	c.Kids = slices.Clone(c.Kids)
	for i, k := range c.Kids {
		c.Kids[i] = shiftedBy(k, to)
	}
	return c
}

// Whatever a form comes to is emitted.

// builtin tells of special forms and primitives alone.
func builtin(_ int, name string) api.Found {
	if n := slices.Index(api.Specials[:], name); n >= 0 {
		return api.Found{Kind: api.FSpecial, N: n}
	}
	if n := slices.Index(api.Prims[:], name); n >= 0 {
		return api.Found{Kind: api.FPrim, N: n}
	}
	return api.Found{}
}

// expanded are the core forms that a source comes to.
func expanded(t *testing.T, source string) []api.Core {
	t.Helper()
	g, err, _ := read.Read([]byte(source))
	if err != api.OK {
		t.Fatal(source)
	}
	var out []api.Core
	var all []api.Syn
	for _, root := range g.Roots {
		s, err := rules.From(graph.Canon(api.Graph{Nodes: g.Nodes, Roots: []int{root}}), 0)
		if err != api.OK {
			t.Fatal(source)
		}
		all = append(all, s)
	}
	for len(all) > 0 {
		top, err := expand.Top(all[0], builtin)
		if err != api.OK {
			t.Fatalf("%s: error %d", source, err)
		}
		all = append(slices.Clone(top.Forms), all[1:]...)
		if top.Kind == api.TopCore {
			out = append(out, top.Core)
		}
	}
	return out
}

func TestFormsThatAreExpanded(t *testing.T) {
	for _, source := range []string{
		"(define (f n) (if (= n 0) 1 (* n (f (- n 1))))) (f 20)", "(let loop ((i 0)) (if (< i 100000) (loop (+ i 1)) i))", "(define k #f) (define n 0) (begin (call/cc (lambda (c) (set! k c))) (set! n (+ n 1)) (if (< n 3) (k 0) n))",
		"(let* ((x 1) (y x)) (set! x y) (letrec ((f (lambda () (g))) (g (lambda r r))) (f)))", "(define-record-type point (make x y) point? (x px) (y py set-py!)) (make 1 2)", "(guard (e (#t (display e)) ((car e) => cdr)) (raise 1))", "(parameterize ((p 1)) (p))", "(case 1 ((1 2) 3) (else 4))",
		"(do ((i 0 (+ i 1)) (l '() (cons i l))) ((= i 3) l) (display i))", "`(1 ,(+ 1 2) ,@(list 4 5) #(6 ,7))", "(with-continuation-mark 'a 1 (with-continuation-mark 'a 2 (continuation-marks 'a)))", "(lambda (x . y) (define z 1) (define (w) z) (begin (or x y (w)) (and x y)))", "(cond (1 => car) (2) (else 3))", "(when 1 2 3) (unless 1 2 3)", "'(a . #(b))",
	} {
		for _, c := range expanded(t, source) {
			checkFrames(t, source, c)
			if got, wanted := answer(c), told(modelEmit(c)); got != wanted {
				t.Errorf("%s: %s, want %s", source, got, wanted)
			}
		}
	}
	// A loop makes no frames but for its test, and what it goes on with.
	code, err := emit.Emit(expanded(t, "(define (loop i) (if (< i 100000) (loop (+ i 1)) i))")[0])
	if err != api.OK || show(code) != "IClose 0, IDefine 1, IReturn [{1: IFrame 7, ILocal 0 0, IPush, IConst 0, IPush, IPrim 27, ICall 2, IFalse 18, IFrame 15, ILocal 0 0, IPush, IConst 1, IPush, IPrim 20, ICall 2, IPush, IGlobal 2, ICall 1, ILocal 0 0, IReturn ['100000, '1, loop]}, own loop]" {
		t.Error(show(code), err)
	}
}
