package check_test

import (
	"slices"
	"strconv"
	"strings"
	"testing"

	"athanor/api"
	"athanor/emit"
	"athanor/expand"
	"athanor/graph"
	"athanor/read"
	"athanor/rules"
)

// Promise 15.2: what layer 14 makes of a form checks, if its constants are data.

// checkEmitted holds that the code of a core form checks and runs.
func checkEmitted(t *testing.T, what string, core api.Core) api.Code {
	t.Helper()
	c, err := emit.Emit(core)
	if err != api.OK {
		t.Fatalf("%s: error %d", what, err)
	}
	checkOne(t, what, c, nil, "OK")
	checkOne(t, what, c, []int{1, 2}, "OK")
	if problem := newSampler(1).runAll(c); problem != "" {
		t.Errorf("%s: %s", what, problem)
	}
	return c
}

// builtin tells of special forms and primitives alone.
func builtin(_ int, name string) api.Found {
	if n := slices.Index(api.Specials[:], name); n >= 0 {
		return api.Found{Kind: api.FSpecial, N: n}
	}
	if n := slices.Index(api.Prims[:], name); n >= 0 {
		return api.Found{Kind: api.FPrim, N: n}
	}
	return api.Found{}
}

// expanded are the core forms that a source comes to.
func expanded(t *testing.T, source string) []api.Core {
	t.Helper()
	g, err, _ := read.Read([]byte(source))
	if err != api.OK {
		t.Fatal(source)
	}
	var all []api.Syn
	for _, root := range g.Roots {
		s, err := rules.From(graph.Canon(api.Graph{Nodes: g.Nodes, Roots: []int{root}}), 0)
		if err != api.OK {
			t.Fatal(source)
		}
		all = append(all, s)
	}
	var out []api.Core
	for len(all) > 0 {
		top, err := expand.Top(all[0], builtin)
		if err != api.OK {
			t.Fatalf("%.100s: error %d", source, err)
		}
		all = append(slices.Clone(top.Forms), all[1:]...)
		if top.Kind == api.TopCore {
			out = append(out, top.Core)
		}
	}
	return out
}

func TestEmittedSources(t *testing.T) {
	for _, source := range []string{
		"(define (f n) (if (= n 0) 1 (* n (f (- n 1))))) (f 20)",
		"(let loop ((i 0)) (if (< i 100000) (loop (+ i 1)) i))",
		"(define k #f) (define n 0) (begin (call/cc (lambda (c) (set! k c))) (set! n (+ n 1)) (if (< n 3) (k 0) n))",
		"(let* ((x 1) (y x)) (set! x y) (letrec ((f (lambda () (g))) (g (lambda r r))) (f)))",
		"(define-record-type point (make x y) point? (x px) (y py set-py!)) (make 1 2)",
		"(guard (e (#t (display e)) ((car e) => cdr)) (raise 1))",
		"(parameterize ((p 1)) (p))",
		"(case 1 ((1 2) 3) (else 4))",
		"(do ((i 0 (+ i 1)) (l '() (cons i l))) ((= i 3) l) (display i))",
		"`(1 ,(+ 1 2) ,@(list 4 5) #(6 ,7))",
		"(with-continuation-mark 'a 1 (with-continuation-mark 'a 2 (continuation-marks 'a)))",
		"(cons (with-continuation-mark 'a (f) (g)) (with-continuation-mark (f) 1 2))",
		"(lambda (x . y) (define z 1) (define (w) z) (begin (or x y (w)) (and x y)))",
		"(cond (1 => car) (2) (else 3))",
		"(when 1 2 3) (unless 1 2 3)",
		"'(a . #(b)) \"text\" #\\a #u8(1 2) #t '()",
		"((lambda (a b c . d) (set! a b) (set! d c) (lambda (e) (f (a e) (b (c d)) (if (e) (a) b)))) 1 2 3 4)",
		"(f (if a (g (h) 1) (lambda () (k))) (begin (m) (n)) (or (o) (p)))",
		"(lambda () (if (if (a) b (c)) (if d (e) f) (g (h (i (j))))))",
		"car (define x car) (set! x (lambda () x))",
	} {
		for _, core := range expanded(t, source) {
			checkEmitted(t, source, core)
		}
	}
}

// A lambda of as many parameters as a form may have.
func TestEmittedWide(t *testing.T) {
	for _, n := range []int{0, 1, 2, 500, 1990} {
		for _, rest := range []string{"", " . r"} {
			var names []string
			for i := range n {
				names = append(names, "x"+strconv.Itoa(i))
			}
			if rest != "" && n == 0 {
				rest = " r "
			}
			params := "(" + strings.Join(names, " ") + rest + ")"
			if n == 0 {
				params = strings.Trim(params, "()")
			}
			if params == "" {
				params = "()"
			}
			for _, core := range expanded(t, "(lambda "+params+" 1)") {
				c := checkEmitted(t, params, core)
				if within := c.Consts[0].Code; within.Need != n || within.Rest != (rest != "") {
					t.Errorf("%.100s: %d, %v", params, within.Need, within.Rest)
				}
			}
		}
	}
}

// core is a core form where such locals are bound; next is the number of the next one.
func (s *sampler) core(deep int, bound []int, next *int) api.Core {
	kid := func() api.Core { return s.core(deep-1, bound, next) }
	some := func(n int) (all []api.Core) {
		for range n {
			all = append(all, kid())
		}
		return all
	}
	if deep == 0 || s.Intn(10) == 0 {
		return s.leaf(bound)
	}
	switch s.Intn(8) {
	case 0:
		return api.Core{Op: api.CIf, Kids: some(3)}
	case 1:
		return api.Core{Op: api.CMark, Kids: some(3)}
	case 2:
		return api.Core{Op: api.CSeq, Kids: some(1 + s.Intn(3))}
	case 3:
		return api.Core{Op: api.CSetG, Name: "g", Env: s.Intn(3), Kids: some(1)}
	case 4:
		if len(bound) > 0 {
			return api.Core{Op: api.CSet, Var: bound[s.Intn(len(bound))], Kids: some(1)}
		}
	case 5:
		c := api.Core{Op: api.CLambda}
		inner := slices.Clone(bound)
		for range s.Intn(4) {
			*next++
			c.Params = append(c.Params, *next)
		}
		inner = append(inner, c.Params...)
		if s.Intn(3) == 0 {
			*next++
			c.Rest = *next
			inner = append(inner, c.Rest)
		}
		c.Kids = []api.Core{s.core(deep-1, inner, next)}
		return c
	}
	return api.Core{Op: api.CApp, Kids: some(1 + s.Intn(4))}
}

func (s *sampler) leaf(bound []int) api.Core {
	switch s.Intn(6) {
	case 0:
		return api.Core{Op: api.CConst, Datum: datum([]string{"1", "(a #(2) . \"x\")", "#0=(a . #0#)", "()"}[s.Intn(4)]).Datum}
	case 1:
		return api.Core{Op: api.CGlobal, Name: "g", Env: s.Intn(3)}
	case 2:
		return api.Core{Op: api.CPrim, Num: s.Intn(len(api.Prims))}
	case 3:
		return api.Core{Op: api.CUnset}
	}
	if len(bound) == 0 {
		return api.Core{Op: api.CGlobal, Name: "h"}
	}
	return api.Core{Op: api.CLocal, Var: bound[s.Intn(len(bound))]}
}

func TestEmittedRandomForms(t *testing.T) {
	s := newSampler(156)
	frames := 0
	for range 8000 {
		next := 0
		core := s.core(6, nil, &next)
		if s.Intn(5) == 0 {
			core = api.Core{Op: api.CDefine, Name: "d", Kids: []api.Core{core}}
		}
		c := checkEmitted(t, "a random form", core)
		agree(t, c, nil)
		for _, within := range codes(&c) {
			for _, i := range within.Ins {
				if i.Op == api.IFrame {
					frames++
				}
			}
		}
	}
	if frames < 20000 {
		t.Error(frames)
	}
}

// Constants that are no data: the form is emitted, but its code does not check, wherever the constant stands.
func TestEmittedOfNoData(t *testing.T) {
	bad := api.Core{Op: api.CConst, Datum: api.Graph{Nodes: []api.Node{{Kind: api.GProc}}, Roots: []int{0}}}
	good := api.Core{Op: api.CConst, Datum: datum("1").Datum}
	for _, put := range []func(k api.Core) api.Core{
		func(k api.Core) api.Core { return k },
		func(k api.Core) api.Core { return api.Core{Op: api.CDefine, Name: "x", Kids: []api.Core{k}} },
		func(k api.Core) api.Core { return api.Core{Op: api.CLambda, Kids: []api.Core{k}} },
		func(k api.Core) api.Core { return api.Core{Op: api.CApp, Kids: []api.Core{k, good}} },
		func(k api.Core) api.Core { return api.Core{Op: api.CIf, Kids: []api.Core{good, good, k}} },
		func(k api.Core) api.Core {
			return api.Core{Op: api.CApp, Kids: []api.Core{{Op: api.CLambda, Kids: []api.Core{{Op: api.CSeq, Kids: []api.Core{k, good}}}}, good}}
		},
	} {
		for want, k := range map[string]api.Core{"OK": good, "ErrCode": bad} {
			c, err := emit.Emit(put(k))
			if err != api.OK {
				t.Fatal(err)
			}
			checkOne(t, "a constant", c, nil, want)
		}
	}
}
