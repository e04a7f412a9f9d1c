package rules

import (
	"slices"

	"athanor/api"
)

// macroOf pulls a piece (syntax-rules ..) apart; false, if it is not of that form. Patterns and templates are not looked at.
func macroOf(s api.Syn) (api.Macro, bool) {
	if tooGreat(s) || !isPlainList(s) || len(s.Kids) < 2 {
		return api.Macro{}, false
	}
	m := api.Macro{Ellipsis: api.Syn{Kind: api.SId, Text: "..."}}
	rest := s.Kids[1:]
	if rest[0].Kind == api.SId {
		m.Ellipsis, rest = rest[0], rest[1:]
	}
	if len(rest) == 0 || !isPlainList(rest[0]) || !areIdentifiers(rest[0].Kids) {
		return api.Macro{}, false
	}
	m.Literals = slices.Clone(rest[0].Kids)
	for _, rule := range rest[1:] {
		if !isPlainList(rule) || len(rule.Kids) != 2 {
			return api.Macro{}, false
		}
		m.Rules = append(m.Rules, api.Rule{Pattern: rule.Kids[0], Template: rule.Kids[1]})
	}
	return m, true
}

// isMacro tells whether a macro, written as a piece with its ellipsis named, is of the form that macroOf pulls apart. The ellipsis is looked at ahead, since a list in its place would be taken for literals.
func isMacro(m api.Macro) bool {
	if m.Ellipsis.Kind != api.SId {
		return false
	}
	kids := []api.Syn{{Kind: api.SId, Text: "syntax-rules"}, m.Ellipsis, {Kind: api.SList, Kids: m.Literals}}
	for _, r := range m.Rules {
		kids = append(kids, api.Syn{Kind: api.SList, Kids: []api.Syn{r.Pattern, r.Template}})
	}
	_, ok := macroOf(api.Syn{Kind: api.SList, Kids: kids})
	return ok
}

// isPlainList tells whether a piece is a list without a Tail.
func isPlainList(s api.Syn) bool { return s.Kind == api.SList && len(s.Tail) == 0 }

// areIdentifiers tells whether all pieces are identifiers.
func areIdentifiers(all []api.Syn) bool {
	return !slices.ContainsFunc(all, func(s api.Syn) bool { return s.Kind != api.SId })
}

// rule is a pattern and a template as they are gone through.
type rule struct {
	pattern  pattern
	template template
	dots     []dots
}

// readRules reads the rules of what macroOf pulled apart; false, if one is not as it may be. What their templates bring in has the stamp.
func readRules(m api.Macro, stamp int) ([]rule, bool) {
	w := newWords(m)
	var out []rule
	for _, r := range m.Rules {
		one, ok := w.rule(r, stamp)
		if !ok {
			return nil, false
		}
		out = append(out, one)
	}
	return out, true
}

// rule reads a rule; false, if it is not as it may be.
func (w words) rule(r api.Rule, stamp int) (rule, bool) {
	if r.Pattern.Kind != api.SList || len(r.Pattern.Kids) == 0 || r.Pattern.Kids[0].Kind != api.SId {
		return rule{}, false
	}
	p := newPatterns(w)
	whole := p.row(r.Pattern.Kids[1:], r.Pattern.Tail)
	t := templates{words: w, variables: p.variables, stamp: stamp}
	told := t.piece(r.Template)
	return rule{pattern: whole, template: told, dots: p.dots}, !p.wrong && !t.wrong
}
