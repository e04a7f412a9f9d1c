package lex

import (
	"fmt"
	"math"
	"math/rand"
	"slices"
	"strconv"
	"strings"
	"testing"

	"athanor/api"
)

func spelled(t *testing.T, kind, num int, text, want string) {
	t.Helper()
	if got := Spell(token(kind, num, text, 3, 7)); got != want {
		t.Errorf("Spell of kind %d, %d, %q: %q, not %q", kind, num, text, got, want)
	}
}

func TestSpellSigns(t *testing.T) {
	for kind, want := range map[int]string{api.TkOpen: "(", api.TkClose: ")", api.TkVector: "#(", api.TkBytes: "#u8(", api.TkDot: ".", api.TkSkip: "#;"} {
		spelled(t, kind, 0, "", want)
		spelled(t, kind, 9, "text", want)
	}
	for _, q := range []string{"'", "`", ",", ",@"} {
		spelled(t, api.TkQuote, 0, q, q)
	}
	for n, want := range map[int]string{0: "0", 1: "1", 10: "10", 123456789: "123456789", 999999999: "999999999"} {
		spelled(t, api.TkLabel, n, "", "#"+want+"=")
		spelled(t, api.TkRef, n, "", "#"+want+"#")
	}
	spelled(t, api.TkBool, 1, "", "#t")
	spelled(t, api.TkBool, 0, "", "#f")
}

// A text is taken as it is, whatever it is.
func TestSpellTakesTexts(t *testing.T) {
	for _, kind := range []int{api.TkInt, api.TkSym, api.TkQuote} {
		for _, text := range []string{"", "12", "-2", "a", "a b", "\xff", "λ", "(", "007"} {
			spelled(t, kind, 5, text, text)
		}
	}
	spelled(t, api.TkString, 5, "a\xffb\xce\"\xe2\x82\n", "\"a\xffb\xce\\\"\xe2\x82\\n\"")
	spelled(t, api.TkString, 5, "\n\xe2\x82", "\"\\n\xe2\x82\"")
	long := strings.Repeat("a", api.MaxItems+1)
	spelled(t, api.TkString, 0, long, `"`+long+`"`)
}

func TestSpellLetters(t *testing.T) {
	for n := range 0x110000 {
		want := fmt.Sprintf(`#\x%x`, n)
		switch {
		case n == 0:
			want = `#\null`
		case n == 9:
			want = `#\tab`
		case n == 10:
			want = `#\newline`
		case n == 13:
			want = `#\return`
		case n == 32:
			want = `#\space`
		case 33 <= n && n <= 126:
			want = `#\` + string(rune(n))
		case 0xD800 <= n && n <= 0xDFFF:
			want = ""
		}
		spelled(t, api.TkChar, n, "", want)
	}
	for n, want := range map[int]string{31: `#\x1f`, 33: `#\!`, 126: `#\~`, 127: `#\x7f`, 128: `#\x80`, 955: `#\x3bb`, 0xABCDE: `#\xabcde`, 0x10FFFF: `#\x10ffff`, '(': `#\(`, '"': `#\"`, ';': `#\;`, 'x': `#\x`, '\\': `#\\`} {
		spelled(t, api.TkChar, n, "", want)
	}
}

func TestSpellTexts(t *testing.T) {
	for text, want := range map[string]string{
		"": `""`, "a": `"a"`, `"`: `"\""`, `\`: `"\\"`, "\n": `"\n"`, "\t": `"\t"`, "\r": `"\r"`, "\x00": `"\x0;"`, "\x1f": `"\x1f;"`, "\x0b": `"\xb;"`, "\x7f": `"\x7f;"`,
		"λ": `"λ"`, "\u0080": "\"\u0080\"", "😀 é": `"😀 é"`, "\uFFFD": "\"\uFFFD\"", "a\"b\\c\nd": `"a\"b\\c\nd"`, "'(;#|": `"'(;#|"`, " ~!": `" ~!"`, "\\x41;": `"\\x41;"`, "λ\x01λ": `"λ\x1;λ"`,
	} {
		spelled(t, api.TkString, 0, text, want)
	}
	for n := range 0x200 {
		text, want := string(rune(n)), string(rune(n))
		switch {
		case n == 9:
			want = `\t`
		case n == 10:
			want = `\n`
		case n == 13:
			want = `\r`
		case n == 34 || n == 92:
			want = `\` + text
		case n < 32 || n == 127:
			want = `\x` + strconv.FormatInt(int64(n), 16) + ";"
		}
		spelled(t, api.TkString, 0, text, `"`+want+`"`)
	}
}

func TestSpellNothing(t *testing.T) {
	for _, n := range []int{-1, math.MinInt, math.MaxInt, 1 << 32, 1<<32 + 65, -1 << 32, math.MaxInt32, math.MinInt32} {
		for _, kind := range []int{api.TkLabel, api.TkRef, api.TkBool, api.TkChar} {
			spelled(t, kind, n, "text", "")
		}
	}
	for _, kind := range []int{api.TkLabel, api.TkRef} {
		spelled(t, kind, 1000000000, "", "")
	}
	spelled(t, api.TkBool, 2, "", "")
	for _, n := range []int{0xD800, 0xDBFF, 0xDFFF, 0x110000} {
		spelled(t, api.TkChar, n, "", "")
	}
	for _, kind := range []int{api.TkEnd, -1, api.TkSym + 1, 100, math.MinInt, math.MaxInt, 1 << 32} {
		for _, text := range []string{"", "a"} {
			spelled(t, kind, 0, text, "")
			spelled(t, kind, 1, text, "")
		}
	}
}

// readBack asks whether spellings, with blanks between, are the tokens that were spelt.
func readBack(t *testing.T, all []api.Token, blank string) {
	t.Helper()
	var source strings.Builder
	for _, k := range all {
		source.WriteString(Spell(k) + blank)
	}
	got, err, place := Tokens([]byte(source.String()))
	for i := range got {
		got[i].From, got[i].To = 0, 0
	}
	if err != api.OK || len(got) != len(all)+1 || !slices.Equal(got[:len(all)], all) {
		t.Fatalf("%.200q: %.300s, %d at %d, not %.300s", source.String(), show(got), err, place, show(all))
	}
}

func TestEachLetterIsReadBack(t *testing.T) {
	var chars, texts []api.Token
	for n := range 0x110000 {
		if 0xD800 <= n && n <= 0xDFFF {
			continue
		}
		chars = append(chars, token(api.TkChar, n, "", 0, 0))
		if len(texts) == 0 || len(chars)%1000 == 0 {
			texts = append(texts, token(api.TkString, 0, "", 0, 0))
		}
		texts[len(texts)-1].Text += string(rune(n))
		if len(chars) == 5000 {
			readBack(t, chars, "\n")
			readBack(t, texts, " ")
			chars, texts = nil, nil
		}
	}
	readBack(t, chars, "\t")
	readBack(t, texts, "\r")
}

// randomToken is a token that a source may have.
func randomToken(r *rand.Rand) api.Token {
	switch kind := 1 + r.Intn(api.TkSym); kind {
	case api.TkQuote:
		return token(kind, 0, []string{"'", "`", ",", ",@"}[r.Intn(4)], 0, 0)
	case api.TkLabel, api.TkRef:
		return token(kind, r.Intn(1000000000)>>r.Intn(30), "", 0, 0)
	case api.TkBool:
		return token(kind, r.Intn(2), "", 0, 0)
	case api.TkInt:
		return token(kind, 0, strconv.FormatInt(int64(r.Uint64())>>r.Intn(64), 10), 0, 0)
	case api.TkChar:
		return token(kind, int(randomLetter(r)), "", 0, 0)
	case api.TkString:
		var letters []rune
		for n := r.Intn(9); n > 0; n-- {
			letters = append(letters, randomLetter(r))
		}
		return token(kind, 0, string(letters), 0, 0)
	case api.TkSym:
		for {
			text := ""
			for n := r.Intn(5); n >= 0; n-- {
				text += pieces[r.Intn(len(pieces))]
			}
			if k, ok := otherOf(text); ok && k.Kind == api.TkSym {
				return token(kind, 0, text, 0, 0)
			}
		}
	default:
		return token(kind, 0, "", 0, 0)
	}
}

func randomLetter(r *rand.Rand) rune {
	for {
		if n := rune(r.Intn(0x110000) >> r.Intn(21)); n < 0xD800 || n > 0xDFFF {
			return n
		}
	}
}

func TestSpellingsAreReadBack(t *testing.T) {
	r := rand.New(rand.NewSource(5))
	for range 20000 {
		var all []api.Token
		for n := r.Intn(8); n > 0; n-- {
			all = append(all, randomToken(r))
		}
		readBack(t, all, []string{" ", "\n", "\t", "\r", " \n "}[r.Intn(5)])
	}
	full := token(api.TkString, 0, strings.Repeat("\x01", api.MaxItems), 0, 0)
	readBack(t, []api.Token{full, full}, " ")
}

// What is read, spelt and read again is the same.
func TestSourcesAreSpeltAndReadBack(t *testing.T) {
	r := rand.New(rand.NewSource(6))
	for range 5000 {
		all, err, _ := Tokens([]byte(fineSource(r)))
		if err != api.OK {
			t.Fatal(err)
		}
		for i := range all {
			all[i].From, all[i].To = 0, 0
		}
		readBack(t, all[:len(all)-1], " ")
	}
}

func TestSymbol(t *testing.T) {
	for _, s := range []string{"a", "list->string", "+", "-", "...", "..", "1a", "+1a", "λ", "\u0080", "\U0010FFFF", "\uFFFD", "!$%&*/:<=>?^_~+-.@", "A", "Z9", "@", ".5", "-.", "1.5", "\u00a0"} {
		if !Symbol(s) {
			t.Errorf("Symbol(%q)", s)
		}
	}
	for _, s := range []string{
		"", " ", "a ", " a", "a b", "a\n", "\ta", "a;", ";a", "#|b|#a", "a(", "(a", "a)", "()", "1", "-1", "+0", "007", ".", "#t", "#f", "#\\a", "a#", "#a", "a'", "'a", ",a", ",@a", "`a", `"a"`, `a"b"`, "a|b|", "|a|", "a[", "{", "\\", "\x00", "a\x7f", "\x7f", "#;a", "#0=", "#0#",
		"\xff", "a\xff", "\xce", "\xed\xa0\x80", tooBig().String(),
	} {
		if Symbol(s) {
			t.Errorf("Symbol(%q)", s)
		}
	}
	// What is longer than a source may be is no token of any.
	if !Symbol(strings.Repeat("a", api.MaxSource)) || Symbol(strings.Repeat("a", api.MaxSource+1)) {
		t.Error("MaxSource")
	}
	r := rand.New(rand.NewSource(7))
	for range 20000 {
		s := randomSource(r)
		all, _, _ := words(s)
		if want := len(all) == 2 && all[0].Kind == api.TkSym && all[0].Text == s; Symbol(s) != want {
			t.Fatalf("Symbol(%q)", s)
		}
	}
}
