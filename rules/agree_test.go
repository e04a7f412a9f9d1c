package rules_test

import (
	"math/rand"
	"testing"

	"athanor/api"
	"athanor/rules"
)

// Promise 12.3, by the words written out a second time.

// sampleFit is a piece that a pattern fits, or nearly.
func sampleFit(r *rand.Rand, m api.Macro, p api.Syn) api.Syn {
	if r.Intn(25) == 0 {
		return samplePiece(r, 6)
	}
	switch {
	case p.Kind == api.SId && has(m.Literals, p):
		return id(p.Text)
	case p.Kind == api.SId:
		return samplePiece(r, 3)
	case p.Kind == api.SAtom:
		return p
	}
	kids := sampleFits(r, m, p.Kids)
	if p.Kind == api.SVector {
		return vector(kids...)
	}
	var tail []api.Syn
	for _, t := range p.Tail {
		tail = append(tail, sampleFit(r, m, t))
	}
	return ends(kids, tail)
}

// sampleFits are kids that patterns fit, or nearly.
func sampleFits(r *rand.Rand, m api.Macro, all []api.Syn) []api.Syn {
	var kids []api.Syn
	turns := r.Intn(4) // of all alike, so that numbers seldom differ
	for i, k := range all {
		switch {
		case isEllipsis(m, k):
		case i+1 < len(all) && isEllipsis(m, all[i+1]):
			for range max(0, turns+[]int{0, 0, 0, 1, -1}[r.Intn(5)]) {
				kids = append(kids, sampleFit(r, m, k))
			}
		default:
			kids = append(kids, sampleFit(r, m, k))
		}
	}
	return kids
}

// sampleForm is a use of a macro that one of its rules fits, or nearly.
func sampleForm(r *rand.Rand, m api.Macro) api.Syn {
	p := m.Rules[r.Intn(len(m.Rules))].Pattern
	out := sampleFit(r, m, api.Syn{Kind: api.SList, Kids: p.Kids[1:], Tail: p.Tail})
	if out.Kind == api.SList {
		return api.Syn{Kind: api.SList, Kids: append([]api.Syn{id("m")}, out.Kids...), Tail: out.Tail}
	}
	return dotted(out, id("m"))
}

func TestUseByTheWords(t *testing.T) {
	r := rand.New(rand.NewSource(124))
	told := map[string]int{}
	sames := []func(a, b api.Syn) bool{same, func(a, b api.Syn) bool { return true }, func(a, b api.Syn) bool { return false }}
	for range 150000 {
		m, ok := parseOf(sampleMacro(r))
		if !ok {
			continue
		}
		f := sampleForm(r, m)
		which := sames[min(len(sames)-1, r.Intn(8))%3]
		s, err := rules.Use(m, f, 9, which)
		wanted, wantErr := useOf(m, f, 9, which)
		if answer(s, err) != answer(wanted, wantErr) {
			t.Fatalf("%s\nof %s:\n%s, want\n%s", showMacro(m), write(f), answer(s, err), answer(wanted, wantErr))
		}
		if err == api.OK {
			told["told"]++
			if sizeOf(s) > api.MaxForms {
				t.Fatalf("no piece: %s", write(s))
			}
			continue
		}
		told[answer(s, err)]++
	}
	if told["told"] < 5000 || told["ErrMatch"] < 1000 || len(told) != 2 {
		t.Errorf("told: %v", told)
	}
}

// All small patterns, held against all small forms: each variable is told with what it took.
func TestUseOfAllSmallOnes(t *testing.T) {
	a, b, dots := id("a"), id("b"), id("...")
	var forms []api.Syn
	for size := 1; size <= 4; size++ {
		forms = append(forms, smallPieces(size, number(1), number(2))...)
	}
	for size := 1; size <= 5; size++ {
		for _, p := range smallPieces(size, a, b, dots, number(1)) {
			pattern := list(id("_"), p)
			for _, template := range []api.Syn{vector(a, b), vector(vector(a, dots), b), vector(a, vector(b, dots)), vector(a, dots, number(0), b, dots), vector(a, dots, dots, b)} {
				m, ok := parseOf(list(id("syntax-rules"), list(), list(pattern, template)))
				if !ok {
					continue
				}
				for _, f := range forms {
					f = list(id("m"), f)
					s, err := rules.Use(m, f, 9, same)
					wanted, wantErr := useOf(m, f, 9, same)
					if answer(s, err) != answer(wanted, wantErr) {
						t.Fatalf("%s of %s:\n%s, want\n%s", showMacro(m), write(f), answer(s, err), answer(wanted, wantErr))
					}
				}
			}
		}
	}
}
