package equal_test

import (
	"slices"
	"strconv"
	"testing"

	"athanor/api"
	"athanor/store"
	"athanor/word"
)

// Promise 10.2: Equal.

func TestExamples(t *testing.T) {
	h, names := mustNew(t, 100), store.NewNames()
	expectAlike(t, h, "two lists", put(t, h, names, "(1 2)")[0], put(t, h, names, "(1 2)")[0])
	expectAlike(t, h, "two that go round", put(t, h, names, "#0=(x . #0#)")[0], put(t, h, names, "#0=(x . (x . #0#))")[0])
}

// Sources that are laid twice are alike by their place in this list; all others are told apart.
func TestData(t *testing.T) {
	sources := []string{
		"1", "-1", "a", "b", "#\\a", "\"a\"", "\"b\"", "\"\"", "\"ab\"", "\"ba\"", "\"é\"", "\"\U0001f600\"", "#u8()", "#u8(97)", "#u8(97 98)", "#u8(98 97)", "#u8(0)", "#u8(255)",
		"()", "(a)", "(b)", "((a))", "(a a)", "(a . a)", "(a b)", "(b a)", "(a b c)", "(a b . c)", "((a) b)", "(a (b))", "((a b))", "(() ())", "(() . (()  ()))", "((() ()))",
		"#()", "#(a)", "#(a b)", "#(b a)", "#(a b c)", "#(#(a) b)", "#(a #(b))", "#((a b))", "(#(a b))", "#(#(a b))", "#(97)", "(97)", "(\"a\")", "#(\"a\")", "#(#\\a)", "(#\\a)", "(#\\a . #\\b)",
		"99999999999999999999", "-99999999999999999999", "(99999999999999999999)", "(99999999999999999998)", "#(99999999999999999999)", "((1 #(a \"b\") 99999999999999999999))", "((1 #(a \"b\") 99999999999999999998))", "((1 #(a \"c\") 99999999999999999999))",
		"#t", "#f", "(#t)", "(#f)", "#0=(a . #0#)", "#0=(a b . #0#)", "#0=(#0# . a)", "#0=(#0# . #0#)", "#0=#(#0#)", "#0=#(#0# a)", "#0=(#(#0#) . a)",
	}
	h, names := mustNew(t, 5000), store.NewNames()
	var first, second []api.Word
	for _, s := range sources {
		first, second = append(first, put(t, h, names, s)[0]), append(second, put(t, h, names, s)[0])
	}
	for i := range sources {
		for j := range sources {
			same := first[i] == second[i] || isBig(h, first[i])
			expect(t, h, sources[i]+" and "+sources[j], first[i], second[j], i == j && same, i == j)
		}
	}
}

// lists are fields of some lengths, no two lists of which are the same.
func lists() [][]api.Word {
	return [][]api.Word{
		{}, {fix(1)}, {word.Null}, {3}, {fix(1), fix(2)}, {fix(2), fix(1)}, {charWord('a'), charWord('b')}, {fix(0), fix(255)}, {pointer(1 << 40), word.Unset},
		{fix(0), fix(0), fix(0), fix(1)}, {nameWord(0), word.True, word.Eof}, plain(), silent(), slices.Repeat([]api.Word{charWord('x')}, 1025),
	}
}

// Objects of each type with the same fields: alike only of four types.
func TestEachType(t *testing.T) {
	for kind := api.TPair; kind <= api.TTable; kind++ {
		for _, fields := range lists() {
			h := mustNew(t, 4000)
			a, b := mustAlloc(t, h, kind, fields...), mustAlloc(t, h, kind, fields...)
			eqv := kind == api.TBig && object{kind, fields}.integer() != nil
			what := "type " + strconv.Itoa(kind)
			expect(t, h, what, a, b, eqv, eqv || slices.Contains(likeTypes(), kind))
			expectBoth(t, h, what, a, a)
			expect(t, h, what+", within pairs", mustAlloc(t, h, api.TPair, a, a), mustAlloc(t, h, api.TPair, a, b), false, eqv || slices.Contains(likeTypes(), kind))
		}
	}
}

// Objects of two types with the same fields, and of one type and other sizes.
func TestOtherTypesAndSizes(t *testing.T) {
	for _, fields := range lists() {
		h := mustNew(t, 60000)
		var words []api.Word
		for kind := api.TPair; kind <= api.TTable; kind++ {
			words = append(words, mustAlloc(t, h, kind, fields...))
		}
		for _, kind := range likeTypes() {
			words = append(words, mustAlloc(t, h, kind, append(slices.Clone(fields), fix(1))...), mustAlloc(t, h, kind, append([]api.Word{word.Null, word.Null}, fields...)...))
		}
		for i, a := range words {
			for j, b := range words {
				expect(t, h, "types "+strconv.Itoa(i+1)+", "+strconv.Itoa(j+1), a, b, i == j, i == j)
			}
		}
	}
}

// Fields that are told apart at the first place, in the middle, at the last, whatever stands there.
func TestOneFieldApart(t *testing.T) {
	others := slices.Concat(plain()[1:], silent(), nowhere(), []api.Word{pointer(0), pointer(1)})
	for _, kind := range likeTypes() {
		for _, size := range []int{1, 2, 3, 5, 8} {
			h := mustNew(t, 100)
			mustAlloc(t, h, api.TPair, word.Null)
			a, b := mustAlloc(t, h, kind, make([]api.Word, size)...), mustAlloc(t, h, kind, make([]api.Word, size)...)
			for i := range size {
				expectAlike(t, h, "the same", a, b)
				for _, w := range others {
					mustSet(t, h, b, i, w)
					expectApart(t, h, "type "+strconv.Itoa(kind)+", field "+strconv.Itoa(i), a, b)
				}
				mustSet(t, h, b, i, fix(0))
			}
		}
	}
}

// The same of long ones.
func TestOneFieldApartOfMany(t *testing.T) {
	const size = 3000
	for _, kind := range likeTypes() {
		h := mustNew(t, 2*size+2)
		a, _ := h.Fill(kind, size, charWord('a'))
		b, _ := h.Fill(kind, size, charWord('a'))
		expectAlike(t, h, "the same", a, b)
		for _, i := range []int{0, 1, size / 2, size - 2, size - 1} {
			mustSet(t, h, a, i, charWord('b'))
			expectApart(t, h, "field "+strconv.Itoa(i), a, b)
			mustSet(t, h, b, i, charWord('b'))
			expectAlike(t, h, "both", a, b)
		}
	}
}

// Objects within others: those that are told apart by fields count by them, all others by their place.
func TestWithinOthers(t *testing.T) {
	for _, outer := range []int{api.TPair, api.TVector} {
		for kind := api.TPair; kind <= api.TTable; kind++ {
			for i := range 3 {
				h := mustNew(t, 200)
				within := func(p api.Word) api.Word {
					fields := []api.Word{fix(7), fix(8), fix(9)}
					fields[i] = p
					return mustAlloc(t, h, outer, fields...)
				}
				p, q, r := mustAlloc(t, h, kind, fix(1), fix(2)), mustAlloc(t, h, kind, fix(1), fix(2)), mustAlloc(t, h, kind, fix(1), fix(3))
				what := "type " + strconv.Itoa(kind) + " in " + strconv.Itoa(outer)
				expectAlike(t, h, what, within(p), within(p))
				expect(t, h, what, within(p), within(q), false, slices.Contains(likeTypes(), kind))
				expectApart(t, h, what, within(p), within(r))
				expect(t, h, what+", deeper", within(within(p)), within(within(q)), false, slices.Contains(likeTypes(), kind))
				expectApart(t, h, what+", deeper", within(within(p)), within(within(r)))
				expectApart(t, h, what+", deeper on one side", within(within(p)), within(p))
			}
		}
	}
}

// Integers within others: the same ones, wherever they lie.
func TestIntegersWithinOthers(t *testing.T) {
	for _, x := range beyond() {
		h := mustNew(t, 300)
		p, q, r := mustAlloc(t, h, api.TBig, bigFields(x)...), mustAlloc(t, h, api.TBig, bigFields(x)...), mustAlloc(t, h, api.TBig, bigFields(plus(power(99), 7))...)
		for _, kind := range []int{api.TPair, api.TVector} {
			a, b := mustAlloc(t, h, kind, p, q, p, q), mustAlloc(t, h, kind, p, p, q, q)
			expectAlike(t, h, x.String(), a, b)
			mustSet(t, h, b, 3, r)
			expectApart(t, h, x.String(), a, b)
		}
		expectApart(t, h, x.String(), mustAlloc(t, h, api.TClosure, p), mustAlloc(t, h, api.TClosure, p))
	}
}

// Texts and bytes, laid letter by letter, and with fields that are no letters and no bytes: they are compared as words.
func TestTextsAndBytes(t *testing.T) {
	h, names := mustNew(t, 2000), store.NewNames()
	for _, s := range []string{"\"\"", "\"a\"", "\"hello, world\"", "\"\\x0;\\x10ffff;é€\"", "#u8()", "#u8(0 255 7)"} {
		expectAlike(t, h, s, put(t, h, names, s)[0], put(t, h, names, s)[0])
	}
	for _, kind := range []int{api.TString, api.TBytes} {
		for _, w := range slices.Concat(plain(), silent(), nowhere()) {
			a, b := mustAlloc(t, h, kind, w, fix(1)), mustAlloc(t, h, kind, w, fix(1))
			expectAlike(t, h, "fields of all kinds", a, b)
			h.Cut(int(a / 8))
		}
	}
}

// A place within a text is a word as any other: the same one, or not, whatever lies there.
func TestPlacesInTexts(t *testing.T) {
	for _, kind := range []int{api.TString, api.TBytes} {
		for _, fields := range [][]api.Word{{fix(1), fix(2)}, bigFields(power(64))} {
			for inner := api.TPair; inner <= api.TTable; inner++ {
				h := mustNew(t, 100)
				p, q := mustAlloc(t, h, inner, fields...), mustAlloc(t, h, inner, fields...)
				expectAlike(t, h, "one place", mustAlloc(t, h, kind, p, fix(1)), mustAlloc(t, h, kind, p, fix(1)))
				expectApart(t, h, "two places", mustAlloc(t, h, kind, p, fix(1)), mustAlloc(t, h, kind, q, fix(1)))
			}
		}
	}
}

// What is shared on one side and not on the other is alike all the same.
func TestSharedOnOneSide(t *testing.T) {
	h, names := mustNew(t, 3000), store.NewNames()
	for _, like := range [][]string{
		{"((a) (a))", "(#0=(a) #0#)", "(#0=(#1=a) (#1#))"},
		{"((a) . (a))", "(#0=(a) . #0#)", "#0=((a) a)"},
		{"#(\"x\" \"x\" \"x\")", "#(#0=\"x\" #0# #0#)", "#(#0=\"x\" \"x\" #0#)", "#(\"x\" #0=\"x\" #0#)"},
		{"(99999999999999999999 99999999999999999999)", "(#0=99999999999999999999 #0#)"},
		{"#(#(() ()) #(() ()))", "#(#0=#(() ()) #0#)"},
		{"((1 2) (1 2) 2)", "(#0=(1 2) #0# 2)", "((1 . #0=(2)) (1 . #0#) 2)", "((1 . #0=(2)) (1 . #0#) . #0#)"},
		{"((a a) a a)", "(#0=(a a) . #0#)", "(#0=(a . #1=(a)) a . #1#)"},
	} {
		var words []api.Word
		for _, s := range like {
			words = append(words, put(t, h, names, s)[0])
		}
		for i, a := range words {
			for j, b := range words {
				expect(t, h, like[i]+" and "+like[j], a, b, i == j, true)
			}
		}
		expectApart(t, h, like[0], words[0], put(t, h, names, "(z)")[0])
	}
}

// What changes is told by what it is then.
func TestToldByWhatItIs(t *testing.T) {
	h, names := mustNew(t, 200), store.NewNames()
	a, b := put(t, h, names, "(1 (2 3))")[0], put(t, h, names, "(1 (2 3))")[0]
	expectAlike(t, h, "ahead", a, b)
	second, _ := h.Get(a, api.TPair, 1)
	mustSet(t, h, second, 1, a)
	expectApart(t, h, "changed", a, b)
	other, _ := h.Get(b, api.TPair, 1)
	mustSet(t, h, other, 1, a)
	expectAlike(t, h, "both", a, b)
	mustSet(t, h, other, 1, b)
	expectAlike(t, h, "both, round themselves", a, b)
	mustSet(t, h, a, 0, fix(2))
	expectApart(t, h, "changed again", a, b)
}
