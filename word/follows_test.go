package word_test

import (
	"testing"

	"athanor/api"
	"athanor/word"
)

// Promise 6.3: what is made is told again, a word says at most one thing, and words that say the same are the same.

// expectAlone holds that a word says one thing, and that alone.
func expectAlone(t *testing.T, w api.Word, want said) {
	t.Helper()
	if all := allTold(w); len(all) != 1 || all[0] != want {
		t.Fatalf("%#x, made as %v, says %v", w, want, all)
	}
}

func TestMadeIsToldAgain(t *testing.T) {
	for _, c := range makers() {
		for _, n := range numbers() {
			if w, ok := c.make(n); ok {
				expectAlone(t, w, said{what: c.what, n: n})
			}
		}
	}
	for i, w := range constants() {
		expectAlone(t, w, said{what: sayConstant, n: int64(i)})
	}
	expectAlone(t, word.Bool(false), said{what: sayConstant, n: 1})
	expectAlone(t, word.Bool(true), said{what: sayConstant, n: 2})
}

func TestHeadsAreToldAgain(t *testing.T) {
	for kind := 1; kind <= 255; kind++ {
		for _, n := range numbers() {
			if n%int64(kind) > 2 && n < 1<<39 { // not all of them with each
				continue
			}
			if w, ok := word.Head(kind, int(n)); ok {
				expectAlone(t, w, said{what: sayHead, n: int64(kind), size: n})
			} else if 0 <= n && n <= 1<<40 {
				t.Fatalf("no head of %d, %d", kind, n)
			}
		}
	}
}

// remade makes the word again that says something.
func remade(s said) (api.Word, bool) {
	switch s.what {
	case sayHead:
		return word.Head(int(s.n), int(s.size))
	case sayConstant:
		return constants()[s.n], true
	}
	for _, c := range makers() {
		if c.what == s.what {
			return c.make(s.n)
		}
	}
	return 0, false
}

func TestToldIsMadeAgain(t *testing.T) {
	count := map[string]int{}
	for _, w := range words() {
		all := allTold(w)
		if len(all) > 1 {
			t.Fatalf("%#x says %v", w, all)
		}
		for _, s := range all {
			count[s.what]++
			if again, ok := remade(s); again != w || !ok {
				t.Fatalf("%#x says %v, which is %#x, %v", w, s, again, ok)
			}
		}
	}
	for _, what := range []string{sayNumber, sayPlace, sayConstant, sayLetter, sayName, sayPrim, saySpecial, sayHead} {
		if count[what] == 0 {
			t.Errorf("no %s among the words", what)
		}
	}
}

// Two words are the same only if they say the same: of all that are made here, whatever their kinds, none is made twice.
func TestNoWordTwice(t *testing.T) {
	first := map[api.Word]said{}
	note := func(w api.Word, s said) {
		if before, ok := first[w]; ok && before != s {
			t.Fatalf("%#x is made as %v and as %v", w, before, s)
		}
		first[w] = s
	}
	for i, w := range constants() {
		note(w, said{what: sayConstant, n: int64(i)})
	}
	for _, c := range makers() {
		for n := int64(-70000); n <= 70000; n++ {
			if w, ok := c.make(n); ok {
				note(w, said{what: c.what, n: n})
			}
		}
		for _, n := range numbers() {
			if w, ok := c.make(n); ok {
				note(w, said{what: c.what, n: n})
			}
		}
	}
	for kind := 1; kind <= 255; kind++ {
		for size := range 300 {
			w, _ := word.Head(kind, size)
			note(w, said{what: sayHead, n: int64(kind), size: int64(size)})
		}
	}
}
