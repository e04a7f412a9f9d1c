package emit_test

import (
	"slices"
	"testing"

	"athanor/api"
	"athanor/emit"
)

// Promise 14.1: a code of just MaxCode instructions, and one more.

// row is core forms that are all the same one.
func row(n int, c api.Core) []api.Core { return slices.Repeat([]api.Core{c}, n) }

// padding is as much of what is one instruction as any test needs: it is made once, and shared.
var padding = row(api.MaxCode+100, unset())

// padded is a core form behind so many others, each of which is one instruction.
func padded(n int, c api.Core) api.Core { return seq(seq(padding[:n]...), c) }

// fits holds that a core form is emitted, if its codes have at most MaxCode instructions, and is ErrFull else.
func fits(t *testing.T, what string, c api.Core, longest int) {
	t.Helper()
	code, err := emit.Emit(c)
	want := api.OK
	if longest > api.MaxCode {
		want = api.ErrFull
	}
	if err != want {
		t.Fatalf("%s: of %d, error %d", what, longest, err)
	}
	if err != api.OK {
		if got := told(code, err); got != "ErrFull" {
			t.Errorf("%s: %s", what, got)
		}
		return
	}
	got := 0
	each(code, func(c api.Code) { got = max(got, len(c.Ins)) })
	if got != longest {
		t.Errorf("%s: %d instructions, not %d", what, got, longest)
	}
}

func TestRowsOfInstructions(t *testing.T) {
	for n := api.MaxCode - 3; n <= api.MaxCode+3; n++ {
		fits(t, "a sequence", seq(row(n-1, global("a"))...), n)
		fits(t, "a lambda", lambda([]int{1}, 0, seq(row(n-1, local(1))...)), n)
		fits(t, "a lambda within a lambda", lambda(nil, 1, app(lambda(nil, 0, padded(n-2, number(1))))), n)
		fits(t, "a definition", define("x", seq(row(n-2, number(1))...)), n)
		fits(t, "behind a great lambda", seq(append([]api.Core{lambda(nil, 0, padded(1000, unset()))}, row(n-2, unset())...)...), n)
		if n%2 == 0 {
			fits(t, "a call", app(append(row(n/2-1, global("a")), global("f"))...), n)
			fits(t, "a call in a frame", seq(app(append(row(n/2-2, global("a")), global("f"))...)), n-2)
		} else {
			fits(t, "a call in a frame", seq(app(append(row((n-5)/2, prim(0)), unset())...), unset()), n)
		}
		fits(t, "both", lambda(nil, 0, padded(api.MaxCode-1, lambda(nil, 0, padded(n-2, unset())))), max(n, api.MaxCode+1))
		fits(t, "both just", lambda(nil, 0, padded(api.MaxCode-2, lambda(nil, 0, padded(n-2, unset())))), max(n, api.MaxCode))
	}
}

// many are core forms in which all instructions occur.
func many() []api.Core {
	return []api.Core{
		number(1), global("a"), prim(1), unset(), setGlobal("x", global("a")), lambda([]int{1}, 0, set(1, local(1))), choice(global("a"), global("b"), global("c")), choice(global("a"), app(global("b")), mark(global("k"), global("v"), number(1))),
		app(global("f")), app(global("a"), global("f")), app(app(app(global("a"), global("f")), global("b"), global("g"))), mark(global("k"), global("v"), app(global("f"))), seq(choice(global("a"), app(global("b")), app(global("c"))), mark(global("a"), global("b"), global("c")), choice(global("a"), global("b"), app(global("c")))),
	}
}

// Wherever in a form the room ends.
func TestWhereTheRoomEnds(t *testing.T) {
	for _, c := range many() {
		for what, whole := range map[string]func(n int) api.Core{
			"tail":     func(n int) api.Core { return padded(n, c) },
			"plain":    func(n int) api.Core { return padded(n, seq(c, unset())) },
			"within":   func(n int) api.Core { return app(lambda([]int{5}, 0, padded(n, c)), global("f")) },
			"defined":  func(n int) api.Core { return define("x", padded(n, c)) },
			"operands": func(n int) api.Core { return padded(n, app(c, c, global("f"))) },
		} {
			code, err := modelEmit(whole(10))
			if err != api.OK {
				t.Fatal(err)
			}
			own := 0
			each(code, func(c api.Code) { own = max(own, len(c.Ins)) })
			for n := api.MaxCode - own - 1; n <= api.MaxCode+1; n++ {
				fits(t, what, whole(n), n+own-10)
			}
		}
	}
}

// What may not be emitted is ErrSyntax, however long it is.
func TestErrSyntaxAheadOfErrFull(t *testing.T) {
	long := row(api.MaxCode+10, unset())
	for what, c := range map[string]api.Core{
		"behind":          seq(append(slices.Clone(long), local(1))...),
		"ahead":           seq(append([]api.Core{local(1)}, long...)...),
		"in a lambda":     seq(append(slices.Clone(long), lambda([]int{1, 1}, 0, unset()))...),
		"around a lambda": seq(lambda(nil, 0, seq(long...)), prim(-1)),
		"beside a lambda": app(lambda(nil, 0, prim(len(api.Prims))), lambda(nil, 0, seq(long...))),
		"a definition":    seq(append(slices.Clone(long), define("x", unset()))...),
		"an operand":      app(append(slices.Clone(long), api.Core{Op: api.CSeq})...),
		"a constant":      mark(seq(long...), seq(long...), api.Core{Op: api.CConst}),
	} {
		if got := answer(c); got != "ErrSyntax" {
			t.Errorf("%s: %s", what, got)
		}
	}
}

// A form may have far more instructions than one code.
func TestManyLongCodes(t *testing.T) {
	long := lambda(nil, 0, padded(api.MaxCode-2, unset()))
	code, err := emit.Emit(app(long, lambda(nil, 0, app(long, long)), long))
	n := 0
	each(code, func(c api.Code) { n += len(c.Ins) })
	if err != api.OK || n != 4*api.MaxCode+6+4 {
		t.Errorf("error %d, %d instructions", err, n)
	}
}
