package expand_test

import (
	"math/rand"
	"slices"
	"testing"

	"athanor/api"
	"athanor/expand"
)

// Promise 13.1, by the words written out a second time.

// checkLocals holds that locals are numbers from 1 on, each of which one binding has.
func checkLocals(t *testing.T, what string, c api.Core) {
	t.Helper()
	all := bound(c)
	slices.Sort(all)
	for i, n := range all {
		if n != i+1 {
			t.Fatalf("%s: locals %v", what, all)
		}
	}
}

func TestTopByTheWords(t *testing.T) {
	s := &sampler{Rand: rand.New(rand.NewSource(131))}
	base := worlds()
	var w world
	kinds := map[string]int{}
	heads := map[string]int{}
	for i := range 20000 {
		s.clean = i%3 > 0
		if i%5 == 0 {
			w = s.world(base)
		}
		form := s.top(2 + s.Intn(3))
		top, err := expand.Top(form, w.look)
		got, wanted := answer(top, err), answer(modelTop(w, form))
		if got != wanted {
			t.Fatalf("%s\nm0 %s\nm1 %s\nm2 %s:\n%s, want\n%s", write(form), writeMacro(w[0]["m0"].Macro), writeMacro(w[0]["m1"].Macro), writeMacro(w[0]["m2"].Macro), got, wanted)
		}
		kind := "no"
		if err == api.OK {
			kind = map[int]string{api.TopCore: "core", api.TopSyntax: "syntax", api.TopBegin: "begin"}[top.Kind]
			checkLocals(t, write(form), top.Core)
			countHeads(form, heads)
		}
		kinds[kind]++
	}
	if kinds["core"] < 8000 || kinds["no"] < 2000 || kinds["syntax"] < 200 || kinds["begin"] < 700 {
		t.Errorf("told: %v", kinds)
	}
	for _, name := range append(slices.Clone(api.Specials[:api.SpArrow]), "unquote", "unquote-splicing", "my-or", "my-let*", "def", "two", "lit", "lit-far", "m0", "m1", "m2") {
		if heads[name] < 30 {
			t.Errorf("%s stands in %d forms alone", name, heads[name])
		}
	}
}

// countHeads counts what stands first in lists.
func countHeads(s api.Syn, counts map[string]int) {
	for i, k := range slices.Concat(s.Kids, s.Tail) {
		if i == 0 && k.Kind == api.SId {
			counts[k.Text]++
		}
		countHeads(k, counts)
	}
}
