package emit_test

import (
	"testing"

	"athanor/api"
	"athanor/emit"
)

// Promise 14.1, by the words written out a second time.

func TestEmitByTheWords(t *testing.T) {
	s := newSampler(142)
	counts := map[string]int{}
	longest := 0
	for i := range 30000 {
		c := s.whole(s.Intn(7))
		for range i % 3 {
			c = s.torn(c)
		}
		code, err := emit.Emit(c)
		got, wanted := told(code, err), told(modelEmit(c))
		if got != wanted {
			t.Fatalf("%#v:\n%s, want\n%s", c, got, wanted)
		}
		if err != api.OK {
			counts["no"]++
		}
		each(code, func(c api.Code) {
			longest = max(longest, len(c.Ins))
			for _, i := range c.Ins {
				counts[insName(i.Op)]++
			}
		})
	}
	for _, op := range []int{1, 2, 3, 4, 5, 6, 7, 8, 9, 10, 11, 12, 13, 14, 15, 16} {
		if counts[insName(op)] < 2000 {
			t.Errorf("%s: %d alone", insName(op), counts[insName(op)])
		}
	}
	if counts["no"] < 5000 || longest < 300 {
		t.Errorf("%d refused, the longest code has %d", counts["no"], longest)
	}
}

// small are all core forms of no more than so many core forms, of a few kinds each.
func small(n int, around []int) []api.Core {
	if n < 1 {
		return nil
	}
	all := []api.Core{global("a"), unset(), {Op: api.CConst}, {Op: 14}, local(1)}
	for _, a := range small(n-1, around) {
		all = append(all, seq(a), app(a), set(1, a), define("b", a), setGlobal("b", a), lambda([]int{1}, 0, a), lambda(nil, 1, a), lambda([]int{1}, 1, a))
	}
	for i := 1; i < n-1; i++ {
		for _, a := range small(i, around) {
			for _, b := range small(n-1-i, around) {
				all = append(all, seq(a, b), app(a, b), choice(a, b, global("c")), mark(global("c"), a, b), choice(global("c"), a, b))
			}
		}
	}
	return all
}

func TestSmallForms(t *testing.T) {
	all := small(5, nil)
	for _, c := range all {
		if got, wanted := answer(c), told(modelEmit(c)); got != wanted {
			t.Fatalf("%#v:\n%s, want\n%s", c, got, wanted)
		}
	}
	if len(all) < 20000 {
		t.Errorf("%d forms alone", len(all))
	}
}
