package rules_test

import (
	"math/rand"
	"slices"
	"testing"

	"athanor/api"
	"athanor/rules"
)

// Promise 12.4: what follows.

// used is a macro, a form, and what the one makes of the other.
type used struct {
	m          api.Macro
	form, told api.Syn
}

// stampAlone is a stamp that no sample has.
const stampAlone = 4711

// samplesUsed are uses that tell something; the same ones at each run.
func samplesUsed(t *testing.T, count int) []used {
	t.Helper()
	r := rand.New(rand.NewSource(125))
	var out []used
	for len(out) < count {
		m, err := rules.Parse(sampleMacro(r))
		if err != api.OK {
			continue
		}
		f := sampleForm(r, m)
		if told, err := rules.Use(m, f, stampAlone, same); err == api.OK {
			out = append(out, used{m, f, told})
		}
	}
	return out
}

// leaves are the identifiers and atoms of a piece, as they are written.
func leaves(s api.Syn) []string {
	if s.Kind == api.SId || s.Kind == api.SAtom {
		return []string{write(s)}
	}
	var out []string
	for _, k := range slices.Concat(s.Kids, s.Tail) {
		out = append(out, leaves(k)...)
	}
	return out
}

// changed is a piece with its identifiers changed.
func changed(s api.Syn, how func(api.Syn) api.Syn) api.Syn {
	if s.Kind == api.SId {
		return how(s)
	}
	s = copied(s)
	for i := range s.Kids {
		s.Kids[i] = changed(s.Kids[i], how)
	}
	for i := range s.Tail {
		s.Tail[i] = changed(s.Tail[i], how)
	}
	return s
}

// behind is an identifier with a stamp behind its own.
func behind(s api.Syn, stamp int) api.Syn {
	return id(s.Text, slices.Concat(s.Stamps, []int{stamp})...)
}

func TestNothingElseIsTold(t *testing.T) {
	for _, u := range samplesUsed(t, 6000) {
		may := leaves(u.form)
		for _, r := range u.m.Rules {
			may = append(may, leaves(changed(r.Template, func(s api.Syn) api.Syn { return behind(s, stampAlone) }))...)
		}
		for _, leaf := range leaves(u.told) {
			if !slices.Contains(may, leaf) {
				t.Fatalf("%s of %s: %s in %s", showMacro(u.m), write(u.form), leaf, write(u.told))
			}
		}
	}
}

func TestStampsDoNotCount(t *testing.T) {
	for _, u := range samplesUsed(t, 4000) {
		for _, stamp := range []int{4712, 0, -5, 1, 7} {
			told, err := rules.Use(u.m, u.form, stamp, same)
			want := changed(u.told, func(s api.Syn) api.Syn {
				if n := len(s.Stamps); n > 0 && s.Stamps[n-1] == stampAlone {
					return id(s.Text, append(slices.Clone(s.Stamps[:n-1]), stamp)...)
				}
				return s
			})
			if answer(told, err) != write(want) {
				t.Fatalf("%s of %s with %d: %s, want %s", showMacro(u.m), write(u.form), stamp, answer(told, err), write(want))
			}
		}
	}
}

// Variables are called by other names, one for one: nothing changes.
func TestNamesDoNotCount(t *testing.T) {
	for _, u := range samplesUsed(t, 4000) {
		m := u.m
		m.Rules = nil
		for _, r := range u.m.Rules {
			var names []api.Syn
			for _, s := range slices.Concat(r.Pattern.Kids[1:], r.Pattern.Tail) {
				variables(u.m, s, &names)
			}
			other := func(s api.Syn) api.Syn {
				if has(names, s) {
					return id("other-"+s.Text, append([]int{-9}, s.Stamps...)...)
				}
				return s
			}
			pattern := changed(r.Pattern, other)
			pattern.Kids[0] = id("the-first-one")
			m.Rules = append(m.Rules, api.Rule{Pattern: pattern, Template: changed(r.Template, other)})
		}
		told, err := rules.Use(m, u.form, stampAlone, same)
		if answer(told, err) != write(u.told) {
			t.Fatalf("%s and %s of %s: %s, want %s", showMacro(u.m), showMacro(m), write(u.form), answer(told, err), write(u.told))
		}
	}
}

// Rules behind the one that fits change nothing, nor do those ahead that do not fit.
func TestRulesBehindDoNotCount(t *testing.T) {
	r := rand.New(rand.NewSource(126))
	all := samplesUsed(t, 3000)
	for _, u := range all {
		first := slices.IndexFunc(u.m.Rules, func(rule api.Rule) bool {
			m := u.m
			m.Rules = []api.Rule{rule}
			_, err := rules.Use(m, u.form, stampAlone, same)
			return err == api.OK
		})
		none := api.Rule{Pattern: list(id("_"), atom(api.Node{Kind: api.GString, Text: "nowhere"})), Template: id("x")}
		for _, some := range [][]api.Rule{u.m.Rules[first : first+1], u.m.Rules[:first+1], append(slices.Clone(u.m.Rules), none), append([]api.Rule{none, none}, u.m.Rules...), append(slices.Clone(u.m.Rules[:first+1]), none, u.m.Rules[r.Intn(len(u.m.Rules))])} {
			m := u.m
			m.Rules = some
			told, err := rules.Use(m, u.form, stampAlone, same)
			if answer(told, err) != write(u.told) {
				t.Fatalf("%s of %s: %s, want %s", showMacro(m), write(u.form), answer(told, err), write(u.told))
			}
		}
	}
}

// What is the same in other memory, and asked again, is the same.
func TestUseHangsOnItsArgumentsAlone(t *testing.T) {
	for _, u := range samplesUsed(t, 2000) {
		m := api.Macro{Ellipsis: copied(u.m.Ellipsis), Literals: copiedAll(u.m.Literals)}
		for _, r := range u.m.Rules {
			m.Rules = append(m.Rules, api.Rule{Pattern: copied(r.Pattern), Template: copied(r.Template)})
		}
		told, err := rules.Use(m, copied(u.form), stampAlone, same)
		if answer(told, err) != write(u.told) {
			t.Fatalf("%s of %s: %s, want %s", showMacro(m), write(u.form), answer(told, err), write(u.told))
		}
	}
}

// A macro that Parse told is used as the one that was written.
func TestParseOfWhatIsWritten(t *testing.T) {
	for _, u := range samplesUsed(t, 2000) {
		kids := []api.Syn{id("syntax-rules"), u.m.Ellipsis, list(u.m.Literals...)}
		for _, r := range u.m.Rules {
			kids = append(kids, list(r.Pattern, r.Template))
		}
		m, err := rules.Parse(list(kids...))
		if err != api.OK || showMacro(m) != showMacro(u.m) {
			t.Fatalf("%s: %d, %s", showMacro(u.m), err, showMacro(m))
		}
	}
}
