package expand_test

import (
	"strings"
	"testing"

	"athanor/api"
)

// Promise 13.1: quasiquote.

// quasi are sources with their signs put out in full.
func quasi(all ...string) []string {
	var out []string
	for i, s := range all {
		if i%2 == 0 {
			s = strings.NewReplacer("<", "(quasiquote ", ">", ")", "{", "(unquote ", "}", ")", "[", "(unquote-splicing ", "]", ")").Replace(s)
		}
		out = append(out, s)
	}
	return out
}

func TestQuasiConstants(t *testing.T) {
	checkAll(t, plain(), quasi(
		"<x>", "'x", "<5>", "'5", "<()>", "'()", "<(a b)>", "'(a b)", "<(a . b)>", "'(a . b)", "<#(a b)>", "'#(a b)", "<\"t\">", "'\"t\"", "<(a (b #(c (d))) . #(e))>", "'(a (b #(c (d))) . #(e))",
		"<unquote>", "'unquote", "<#(unquote)>", "'#(unquote)", "<#(unquote x)>", "'#(unquote x)", "<#(quasiquote x)>", "'#(quasiquote x)", "<(#(unquote x))>", "'(#(unquote x))", "<(a . #(unquote x))>", "'(a . #(unquote x))", "<(if quote)>", "'(if quote)",
		"(lambda (unquote) <{x}>)", "(lambda (1) '(unquote x))", "(lambda (quasiquote) <x>)", "(lambda (1) (app x 1))", "(lambda (unquote-splicing) <([x])>)", "(lambda (1) '((unquote-splicing x)))",
	)...)
	refusesAll(t, plain(), "(quasiquote)", "(quasiquote 1 2)", "(quasiquote . 1)", "(quasiquote 1 . 2)")
}

func TestQuasiUnquote(t *testing.T) {
	checkAll(t, plain(), quasi(
		"<{v}>", "v", "<{(v 1)}>", "(app '1 v)", "<({v})>", "(app v '() :cons)", "<(a {v} b c)>", "(app 'a (app v '(b c) :cons) :cons)", "<({v} . b)>", "(app v 'b :cons)", "<(a . {v})>", "(app 'a v :cons)",
		"<(a b . {v})>", "(app 'a (app 'b v :cons) :cons)", "<((a) ({v}) (b))>", "(app '(a) (app (app v '() :cons) '((b)) :cons) :cons)", "<(1 . #({v}))>", "(app '1 (app (app v '() :cons) :list->vector) :cons)",
		"<(a unquote v)>", "(app 'a v :cons)", "<(unquote v)>", "v", "(lambda (v cons) <({v} {cons})>)", "(lambda (1 2) (app 1 (app 2 '() :cons) :cons))", "<({<{v}>})>", "(app v '() :cons)",
	)...)
	for _, source := range []string{"<{if}>", "<({if})>", "<{()}>", "<({(v . 1)})>", "<#({if})>"} {
		refusesAll(t, plain(), quasi(source)...)
	}
}

// One of quasiquote's words that does not stand first in a list of two is a name as any other.
func TestQuasiWordsThatAreNone(t *testing.T) {
	checkAll(t, plain(), quasi(
		"<(unquote)>", "(app 'unquote '() :cons)", "<(unquote 1 2)>", "(app 'unquote '(1 2) :cons)", "<(unquote 1 . 2)>", "(app 'unquote '(1 . 2) :cons)", "<(unquote . 1)>", "(app 'unquote '1 :cons)",
		"<(quasiquote)>", "(app 'quasiquote '() :cons)", "<(quasiquote 1 2)>", "(app 'quasiquote '(1 2) :cons)", "<(a unquote)>", "(app 'a (app 'unquote '() :cons) :cons)", "<(a unquote b c)>", "(app 'a (app 'unquote '(b c) :cons) :cons)",
		"<(unquote {v} 1)>", "(app 'unquote (app v '(1) :cons) :cons)", "<[v]>", "(app 'unquote-splicing '(v) :cons)", "<(unquote-splicing)>", "(app 'unquote-splicing '() :cons)", "<(a unquote-splicing v)>", "(app 'a (app 'unquote-splicing '(v) :cons) :cons)",
		"<((unquote-splicing) 1)>", "(app (app 'unquote-splicing '() :cons) '(1) :cons)", "<((unquote-splicing v v) 1)>", "(app (app 'unquote-splicing '(v v) :cons) '(1) :cons)", "<((unquote-splicing v . v) 1)>", "(app (app 'unquote-splicing '(v . v) :cons) '(1) :cons)",
		"<#(unquote {v} 1)>", "(app (app 'unquote (app v '(1) :cons) :cons) :list->vector)",
	)...)
	// the list of a vector's kids may be one of quasiquote's own
	checkAll(t, plain(), quasi("<#(quasiquote {v})>", "(app (app 'quasiquote (app (app 'unquote '(v) :cons) '() :cons) :cons) :list->vector)")...)
	refusesAll(t, plain(), quasi("<#(unquote {v})>")...)
}

func TestQuasiSplicing(t *testing.T) {
	checkAll(t, plain(), quasi(
		"<([v])>", "(app v '() :append)", "<([v] 1)>", "(app v '(1) :append)", "<(1 [v] [(v)] . 2)>", "(app '1 (app v (app (app v) '2 :append) :append) :cons)", "<([v] . {v})>", "(app v v :append)", "<#([v] {v})>", "(app (app v (app v '() :cons) :append) :list->vector)",
		"<(([v]))>", "(app (app v '() :append) '() :cons)", "<([v] . #([v]))>", "(app v (app (app v '() :append) :list->vector) :append)", "<(1 . [v])>", "(app '1 (app 'unquote-splicing '(v) :cons) :cons)", "<#(a #([v]))>", "(app (app 'a (app (app (app v '() :append) :list->vector) '() :cons) :cons) :list->vector)",
		"(lambda (append v) <([v] [append])>)", "(lambda (1 2) (app 2 (app 1 '() :append) :append))",
	)...)
	refusesAll(t, plain(), quasi("<([if])>")...)
	refusesAll(t, plain(), quasi("<([()])>")...)
}

func TestQuasiLevels(t *testing.T) {
	all := quasi(
		"<<x>>", "(app 'quasiquote '(x) :cons)", "<<{x}>>", "(app 'quasiquote (app (app 'unquote '(x) :cons) '() :cons) :cons)",
		"<<{{v}}>>", "(app 'quasiquote (app (app 'unquote (app v '() :cons) :cons) '() :cons) :cons)",
		"<<(1 {(2 {v})})>>", "(app 'quasiquote (app (app '1 (app (app 'unquote (app (app '2 (app v '() :cons) :cons) '() :cons) :cons) '() :cons) :cons) '() :cons) :cons)",
		"<<([x])>>", "(app 'quasiquote (app (app (app 'unquote-splicing '(x) :cons) '() :cons) '() :cons) :cons)",
		"<<([{v}])>>", "(app 'quasiquote (app (app (app 'unquote-splicing (app v '() :cons) :cons) '() :cons) '() :cons) :cons)",
		"<<({[v]})>>", "(app 'quasiquote (app (app (app 'unquote (app v '() :append) :cons) '() :cons) '() :cons) :cons)",
		"<<[{v}]>>", "(app 'quasiquote (app (app 'unquote-splicing (app v '() :cons) :cons) '() :cons) :cons)",
		"<{<{v}>}>", "v", "<({<{v}>} <{{v}}>)>", "(app v (app (app 'quasiquote (app (app 'unquote (app v '() :cons) :cons) '() :cons) :cons) '() :cons) :cons)",
		"<<<{{{v}}}>>>", "(app 'quasiquote (app (app 'quasiquote (app (app 'unquote (app (app 'unquote (app v '() :cons) :cons) '() :cons) :cons) '() :cons) :cons) '() :cons) :cons)",
		"<<#({v} {{v}})>>", "(app 'quasiquote (app (app (app (app 'unquote '(v) :cons) (app (app 'unquote (app v '() :cons) :cons) '() :cons) :cons) :list->vector) '() :cons) :cons)",
	)
	checkAll(t, plain(), all...)
	for i := 0; i < len(all); i += 2 { // and of a local
		checkTop(t, plain(), "(lambda (v) "+all[i]+")", "(lambda (1) "+strings.TrimSpace(strings.ReplaceAll(" "+all[i+1]+" ", " v ", " 1 "))+")")
	}
}

// Words that a name stands for, wherever it stands.
func TestQuasiWordsByOtherNames(t *testing.T) {
	w := plain().with(0, "uq", api.Found{Kind: api.FSpecial, N: api.SpUnquote}).with(0, "qq", api.Found{Kind: api.FSpecial, N: api.SpQuasi}).with(0, "us", api.Found{Kind: api.FSpecial, N: api.SpSplicing}).variable(0, "unquote")
	checkAll(t, w, "(qq (1 (uq v) (us v) (unquote v)))", "(app '1 (app v (app v '((unquote v)) :append) :cons) :cons)", "(lambda (quasiquote) (qq (1 (quasiquote (uq v)))))", "(lambda (1) (app '1 (app (app 'quasiquote (app v '() :cons) :cons) '() :cons) :cons))")
	checkAll(t, w, "(qq (qq (1 (uq v))))", "(app 'quasiquote (app (app '1 (app (app 'unquote '(v) :cons) '() :cons) :cons) '() :cons) :cons)") // they stay by their own names
}

// One of the words is a local, and others are none.
func TestQuasiWordsThatAreLocals(t *testing.T) {
	checkAll(t, plain(), quasi(
		"(lambda (unquote) <(a . #({x}))>)", "(lambda (1) '(a . #((unquote x))))", "(lambda (unquote) <#({x} ([v]))>)", "(lambda (1) (app (app '(unquote x) (app (app v '() :append) '() :cons) :cons) :list->vector))",
		"(lambda (unquote) <{([v])}>)", "(lambda (1) (app 'unquote (app (app v '() :append) '() :cons) :cons))", "(lambda (unquote-splicing) <([v] {v})>)", "(lambda (1) (app '(unquote-splicing v) (app v '() :cons) :cons))",
		"(lambda (unquote-splicing) <([{v}])>)", "(lambda (1) (app (app 'unquote-splicing (app v '() :cons) :cons) '() :cons))",
	)...)
}
