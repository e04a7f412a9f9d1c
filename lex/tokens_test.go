package lex

import (
	"bytes"
	"math/rand"
	"reflect"
	"strings"
	"testing"

	"athanor/api"
)

func TestTokensExamples(t *testing.T) {
	for _, c := range []struct {
		source string
		want   []api.Token
	}{
		{`(a . "b")`, []api.Token{
			token(api.TkOpen, 0, "", 0, 1), token(api.TkSym, 0, "a", 1, 2), token(api.TkDot, 0, "", 3, 4),
			token(api.TkString, 0, "b", 5, 8), token(api.TkClose, 0, "", 8, 9), token(api.TkEnd, 0, "", 9, 9)}},
		{"", []api.Token{token(api.TkEnd, 0, "", 0, 0)}},
		{" ; a\n ", []api.Token{token(api.TkEnd, 0, "", 6, 6)}},
		{"#0=#1#λ\n#;#(1)", []api.Token{
			token(api.TkLabel, 0, "", 0, 3), token(api.TkRef, 1, "", 3, 6), token(api.TkSym, 0, "λ", 6, 8), token(api.TkSkip, 0, "", 9, 11),
			token(api.TkVector, 0, "", 11, 13), token(api.TkInt, 0, "1", 13, 14), token(api.TkClose, 0, "", 14, 15), token(api.TkEnd, 0, "", 15, 15)}},
		{",,@'`#u8(#\\a #t)", []api.Token{
			token(api.TkQuote, 0, ",", 0, 1), token(api.TkQuote, 0, ",@", 1, 3), token(api.TkQuote, 0, "'", 3, 4), token(api.TkQuote, 0, "`", 4, 5),
			token(api.TkBytes, 0, "", 5, 9), token(api.TkChar, 97, "", 9, 12), token(api.TkBool, 1, "", 13, 15), token(api.TkClose, 0, "", 15, 16), token(api.TkEnd, 0, "", 16, 16)}},
	} {
		all, err, place := Tokens([]byte(c.source))
		if !reflect.DeepEqual(all, c.want) || err != api.OK || place != 0 {
			t.Errorf("Tokens(%q): %v, %d at %d", c.source, all, err, place)
		}
	}
	if all, err, _ := Tokens(nil); len(all) != 1 || all[0] != (api.Token{}) || err != api.OK {
		t.Error("nil:", all, err)
	}
}

func TestOneToken(t *testing.T) {
	expectOne(t, "(", api.TkOpen, 0, "")
	expectOne(t, ")", api.TkClose, 0, "")
	expectOne(t, "#(", api.TkVector, 0, "")
	expectOne(t, "#u8(", api.TkBytes, 0, "")
	for _, q := range []string{"'", "`", ",", ",@"} {
		expectOne(t, q, api.TkQuote, 0, q)
	}
	expectOne(t, ".", api.TkDot, 0, "")
	expectOne(t, "#;", api.TkSkip, 0, "")
	expectOne(t, "#0=", api.TkLabel, 0, "")
	expectOne(t, "#007=", api.TkLabel, 7, "")
	expectOne(t, "#000000001=", api.TkLabel, 1, "")
	expectOne(t, "#999999999=", api.TkLabel, 999999999, "")
	expectOne(t, "#999999999#", api.TkRef, 999999999, "")
	expectOne(t, "#t", api.TkBool, 1, "")
	expectOne(t, "#true", api.TkBool, 1, "")
	expectOne(t, "#f", api.TkBool, 0, "")
	expectOne(t, "#false", api.TkBool, 0, "")
	for _, n := range []string{"a", "1a", "+", "-", "...", "..", ".5", "+a", "-1-", "1+", "list->string", "!$%&*/:<=>?^_~+-.@", "@", "λ", "\u0080", "\U0010FFFF", "\uFFFD", "\uFEFF", "\u00a0", "\u2028"} {
		expectOne(t, n, api.TkSym, 0, n)
	}
}

// Where a delimiter must stand behind a token, no other letter may; where none must, any token may.
func TestDelimiters(t *testing.T) {
	for _, d := range []string{" ", "\t", "\n", "\r", "(", ")", `""`, ";"} {
		for _, s := range []string{"#t", "#f", "#true", "#false", "#\\a", "#\\space", "#\\x41", "#\\(", "#\\;", "#\\\"", "#\\ ", ".", "1", "-1", "a", "λ"} {
			expectTokens(t, s+d)
			if all, err, _ := Tokens([]byte(s + d)); err != api.OK || all[0].From != 0 || all[0].To != len(s) {
				t.Errorf("%q and %q: %v, %d", s, d, all, err)
			}
		}
	}
	for _, d := range []string{"'", "`", ",", "#", "|", "#|a|#", "\v", "\f", "\x00", "[", "{"} {
		for _, s := range []string{"#t", "#f", "#true", "#false", "#\\a", "#\\space", "#\\x41", "#\\(", "#\\ ", ".", "1", "-1", "a", "λ"} {
			expectWrong(t, " "+s+d, api.ErrToken, 1)
		}
	}
	for _, s := range []string{"(", ")", "#(", "#u8(", "'", "`", ",@", "#;", "#12=", "#12#", `"a"`} {
		for _, d := range []string{"a", "λ", "1", ".", "#t", "'", "#1=", "#1#", `"b"`, "#|a|#", "#;", "("} {
			expectTokens(t, s+d)
			if all, err, _ := Tokens([]byte(s + d)); err != api.OK || all[0].To != len(s) {
				t.Errorf("%q and %q: %v, %d", s, d, all, err)
			}
		}
	}
}

func TestGaps(t *testing.T) {
	for _, gap := range []string{
		" ", "\t", "\n", "\r", "\r\n", ";\n", "; ( \" #| a\n", ";;\n;\n", "#||#", "#|||#", "#| a |#", "#|#|a|#|#", "#|#||##||#|#", "#|(\";\n|#", "#| # | |#", "#|a#|b|#c|#", " #||#\t;a\r\n#|\n|# ", ";λ\n", "#|λ|#",
	} {
		source := gap + "a " + gap + "b"
		want := []api.Token{token(api.TkSym, 0, "a", len(gap), len(gap)+1), token(api.TkSym, 0, "b", 2*len(gap)+2, 2*len(gap)+3), token(api.TkEnd, 0, "", len(source), len(source))}
		if all, err, _ := Tokens([]byte(source)); err != api.OK || !reflect.DeepEqual(all, want) {
			t.Errorf("%q: %v, %d", source, all, err)
		}
	}
	// A remark from ; needs no letter 10 behind it, and a letter 13 does not end it.
	for _, s := range []string{";", "; a", ";a\rb", "#||#;", ";#|"} {
		if all, err, _ := Tokens([]byte(s)); err != api.OK || len(all) != 1 || all[0].From != len(s) || all[0].To != len(s) {
			t.Errorf("%q: %v, %d", s, all, err)
		}
	}
}

func TestRemarksWithoutEnd(t *testing.T) {
	for _, s := range []string{"#|", "#| a", "#|#", "#| |", "#|#|#", "#|#||#", "#|#|a|#", "#|a#", "#||a#", "#|\n;|"} {
		expectWrong(t, s, api.ErrToken, 0)
		expectWrong(t, "ab "+s, api.ErrToken, 3)
	}
	expectWrong(t, "#||#|#", api.ErrToken, 4)
	expectWrong(t, "#||#|", api.ErrToken, 4)
	expectWrong(t, "a |#", api.ErrToken, 2)
}

func TestManyRemarks(t *testing.T) {
	const n = 5000
	deep := strings.Repeat("#|", n) + strings.Repeat("|#", n)
	expectWrong(t, "a "+deep[:len(deep)-2], api.ErrToken, 2)
	for _, gap := range []string{deep, strings.Repeat("#||#;\n", n), strings.Repeat("#|#||#|#", n), strings.Repeat(" ", n)} {
		want := []api.Token{token(api.TkSym, 0, "a", len(gap), len(gap)+1), token(api.TkEnd, 0, "", len(gap)+1, len(gap)+1)}
		if all, err, _ := Tokens([]byte(gap + "a")); err != api.OK || !reflect.DeepEqual(all, want) {
			t.Errorf("%.20q and so on: %v, %d", gap, all, err)
		}
	}
}

// What begins a token, and is none, is told at its beginning.
func TestNoTokens(t *testing.T) {
	for _, s := range []string{
		"[", "]", "{", "}", "|", `\`, "\x00", "\x01", "\v", "\f", "\x1f", "\x7f", "a[", "a]b", "a|b|", "a'b", "a`", "a,b", "a#", "1#", `a\`, "a\x7f", "λ[", "[λ",
		"#", "##", "# ", "#a", "#tr", "#tru", "#truee", "#fals", "#T", "#F", "#TRUE", "#t#f", "#u", "#u8", "#u8 (", "#u9(", "#U8(", "#u8a(", "#[", "#'", "#,", "#!", "#λ",
		"#1", "#1 =", "#1a=", "#-1=", "#+1#", "#=", "#1234567890=", "#1234567890#", "#0000000000=", "#1λ#", "#1\"\"",
		`#\ab`, `#\(a`, `#\ a`, `#\"a`, `#\Space`, `#\SPACE`, `#\spac`, `#\spaces`, `#\nul`, `#\nulll`, `#\newlin`, `#\delete`, `#\xg`, `#\x0000041`, `#\X41`, `#\x-1`, `#\x+41`, `#\x4_1`, `#\xd800`, `#\xDFFF`, `#\x110000`, `#\xffffff`, `#\λx`, `#\xλ`, `#\x41#`,
		`"`, `"a`, `"\"`, `"\`, `"a\\\"`, `"\q"`, `"\N"`, `"\ "`, "\"\\\n\"", `"\x"`, `"\x;"`, `"\x41"`, `"\x41 ;"`, `"\x0000041;"`, `"\X41;"`, `"\xg;"`, `"\xD800;"`, `"\xdfff;"`, `"\x110000;"`, `"\x-1;"`, `"\x+1;"`, `"\x4_1;"`, `"\λ"`, `"\xλ;"`, `"\0"`, `"\'"`,
	} {
		expectWrong(t, s, api.ErrToken, 0)
		expectWrong(t, "(a 'λ "+s+")", api.ErrToken, 7)
	}
	expectWrong(t, `#\`, api.ErrToken, 0)
	expectWrong(t, `(a #\`, api.ErrToken, 3)
}

func TestLetters(t *testing.T) {
	for name, letter := range charNames {
		expectOne(t, `#\`+name, api.TkChar, letter, "")
	}
	for source, letter := range map[string]int{
		`#\x`: 'x', `#\n`: 'n', `#\(`: '(', `#\)`: ')', `#\"`: '"', `#\;`: ';', `#\ `: ' ', "#\\\n": 10, "#\\\t": 9, "#\\\r": 13, "#\\\x00": 0, "#\\\x7f": 127, `#\\`: '\\', `#\#`: '#', `#\'`: '\'', `#\|`: '|', `#\[`: '[', `#\0`: '0', `#\λ`: 955, "#\\\U0010FFFF": 0x10FFFF, "#\\\uFFFD": 0xFFFD,
		`#\x0`: 0, `#\x00`: 0, `#\x000000`: 0, `#\x9`: 9, `#\xa`: 10, `#\xA`: 10, `#\xf`: 15, `#\x41`: 65, `#\x041`: 65, `#\x000041`: 65, `#\x3bb`: 955, `#\x3BB`: 955, `#\xd7ff`: 0xD7FF, `#\xE000`: 0xE000, `#\xFFFF`: 0xFFFF, `#\x10fFfF`: 0x10FFFF, `#\x00FFFD`: 0xFFFD,
	} {
		expectOne(t, source, api.TkChar, letter, "")
	}
	for n := 0xD800; n <= 0xDFFF; n++ {
		expectWrong(t, `#\x`+hexOf(rune(n)), api.ErrToken, 0)
		expectWrong(t, `"\x`+hexOf(rune(n))+`;"`, api.ErrToken, 0)
	}
	expectTokens(t, `#\(()#\)`)
	expectTokens(t, `#\;;a`)
	expectTokens(t, `#\""a"#\"`)
}

func TestTexts(t *testing.T) {
	for source, text := range map[string]string{
		`""`: "", `"a"`: "a", `"a b"`: "a b", `"λ"`: "λ", `"\""`: `"`, `"\\"`: `\`, `"\\\\"`: `\\`, `"\\\""`: `\"`, `"\n\t\r"`: "\n\t\r", "\"\n\r\t\"": "\n\r\t", "\"\x00\x7f\"": "\x00\x7f",
		`"\x41;"`: "A", `"\x41;1;"`: "A1;", `"\x0;"`: "\x00", `"\x000041;"`: "A", `"\x10ffff;\xE000;\xd7FF;"`: "\U0010FFFF\uE000\uD7FF", `"\x22;"`: `"`, `"\x5c;n"`: `\n`, `";#|("`: ";#|(", `"#"`: "#", `"\\x41;"`: `\x41;`, "\"\uFFFD\"": "\uFFFD", `"\xfffd;"`: "\uFFFD", `"[]{}|'"`: "[]{}|'",
	} {
		expectOne(t, source, api.TkString, 0, text)
	}
}

func TestMaxItems(t *testing.T) {
	for _, letter := range []string{"a", "λ", "😀", `\\`, `\"`, `\n`, `\x41;`, `\x10ffff;`, "\n"} {
		inside := strings.Repeat(letter, api.MaxItems)
		text, ok := stringOf(inside)
		if !ok {
			t.Fatal(letter)
		}
		expectOne(t, `"`+inside+`"`, api.TkString, 0, text)
		expectWrong(t, ` "`+inside+letter+`"`, api.ErrToken, 1)
		expectWrong(t, ` "a`+inside+`"`, api.ErrToken, 1)
	}
	// Names, letters between remarks, and whole sources have no such limit.
	long := strings.Repeat("a", api.MaxItems+1)
	expectOne(t, long, api.TkSym, 0, long)
	expectTokens(t, "#|"+long+"|#;"+long)
}

func TestIntegers(t *testing.T) {
	for source, text := range map[string]string{"0": "0", "-0": "0", "+0": "0", "000": "0", "-002": "-2", "+5": "5", "12345678901234567890": "12345678901234567890", "-12345678901234567890": "-12345678901234567890"} {
		expectOne(t, source, api.TkInt, 0, text)
	}
	over := tooBig()
	most := tooBig().Sub(over, power(0)).String()
	for _, sign := range []string{"", "+", "-"} {
		text := strings.TrimPrefix(sign, "+") + most
		expectOne(t, sign+most, api.TkInt, 0, text)
		expectOne(t, sign+strings.Repeat("0", 1000)+most, api.TkInt, 0, text)
		expectWrong(t, " "+sign+tooBig().String(), api.ErrToken, 1)
		expectWrong(t, " "+sign+most+"0", api.ErrToken, 1)
		expectWrong(t, " "+sign+strings.Repeat("9", 60000), api.ErrToken, 1)
	}
	// It is a name, as soon as it has another letter.
	expectOne(t, tooBig().String()+"a", api.TkSym, 0, tooBig().String()+"a")
	expectOne(t, strings.Repeat("0", 60000), api.TkInt, 0, "0")
}

func TestMaxSource(t *testing.T) {
	for _, s := range []string{"a", " ", "(", "'", "\n", ";", "0"} {
		full := strings.Repeat(s, api.MaxSource)
		expectTokens(t, full)
		expectWrong(t, full+s, api.ErrLong, 0)
	}
	full := strings.Repeat("a ", api.MaxSource/2)
	expectTokens(t, full)
	expectTokens(t, strings.Repeat("λ", api.MaxSource/2))
	expectWrong(t, strings.Repeat("λ", api.MaxSource/2)+"a", api.ErrLong, 0)
	// Too long goes ahead of bytes that are no letters, and those ahead of letters that are no token.
	expectWrong(t, "\xff"+full, api.ErrLong, 0)
	expectWrong(t, "["+full, api.ErrLong, 0)
	expectWrong(t, "["+full[2:]+"\xff", api.ErrUtf, api.MaxSource-1)
	expectWrong(t, "["+full[1:], api.ErrToken, 0)
}

func TestUtf(t *testing.T) {
	for _, bad := range []string{
		"\x80", "\xbf", "\xff", "\xfe", "\xc0\x80", "\xc1\xbf", "\xe0\x80\x80", "\xe0\x9f\xbf", "\xf0\x80\x80\x80", "\xf0\x8f\xbf\xbf", // not the shortest form
		"\xed\xa0\x80", "\xed\xbf\xbf", "\xf4\x90\x80\x80", "\xf5\x80\x80\x80", "\xf8\x88\x80\x80\x80", // no letter's number
		"\xce", "\xe2\x82", "\xf0\x9f\x98", "\xce ", "\xe2\x82)", "\xe2(\xa1", "\xf0\x9f\x98a", // cut off
	} {
		expectWrong(t, bad, api.ErrUtf, 0)
		for _, ahead := range []string{"a", "λ", "(λ ", "; λ", "#| \uFFFD", `"a`, `#\`, "[", "#|", `"\`, "\uFFFD"} {
			expectWrong(t, ahead+bad, api.ErrUtf, len(ahead))
			expectWrong(t, ahead+bad+"\xff[", api.ErrUtf, len(ahead))
		}
	}
	for _, good := range []string{"\x7f", "\u0080", "\u07ff", "\u0800", "\ud7ff", "\ue000", "\uffff", "\U00010000", "\U0010ffff"} {
		expectOne(t, `"`+good+`"`, api.TkString, 0, good)
	}
}

// Each letter, alone and behind a name: which are names, which are blanks, which begin what is no token.
func TestEachLetter(t *testing.T) {
	for n := range 0x250 {
		s := string(rune(n))
		for _, source := range []string{s, "a" + s, s + "a", "1" + s, "." + s, "#" + s, "#t" + s, `#\` + s, `#\` + s + "a", `"` + s, `"` + s + `"`, `"\` + s + `"`, "#1" + s, "#|" + s + "|#", ";" + s + "a", `"\x4` + s + `;"`, `#\x4` + s} {
			expectTokens(t, source)
		}
	}
}

// All sources of at most four letters of some that mean much.
func TestShortSources(t *testing.T) {
	letters := []string{"(", "\"", "#", "\\", ";", "'", ",", "@", "|", "x", "t", "0", ".", "=", "λ", "[", " ", "\n"}
	level := []string{""}
	for range 4 {
		var next []string
		for _, s := range level {
			for _, l := range letters {
				next = append(next, s+l)
			}
		}
		for _, s := range next {
			expectTokens(t, s)
		}
		level = next
	}
}

func TestRandomSources(t *testing.T) {
	r := rand.New(rand.NewSource(1))
	for range 30000 {
		expectTokens(t, randomSource(r))
		expectTokens(t, fineSource(r))
	}
}

func TestRandomBytes(t *testing.T) {
	r := rand.New(rand.NewSource(8))
	for range 20000 {
		source := make([]byte, r.Intn(8))
		for i := range source {
			source[i] = byte(r.Intn(256))
		}
		expectTokens(t, string(source))
		expectNext(t, string(source), r.Intn(10)-1)
		Symbol(string(source))
	}
}

// A token is what stands from From to To, and between tokens stands nothing but blanks and remarks.
func TestTokensTakeTheirPlaces(t *testing.T) {
	r := rand.New(rand.NewSource(2))
	for range 3000 {
		source := fineSource(r)
		all, err, _ := Tokens([]byte(source))
		if err != api.OK || len(all) == 0 || all[len(all)-1] != token(api.TkEnd, 0, "", len(source), len(source)) {
			t.Fatalf("%q: %v, %d", source, all, err)
		}
		end := 0
		for _, k := range all {
			if gap, err, _ := Tokens([]byte(source[end:k.From])); err != api.OK || len(gap) != 1 {
				t.Fatalf("%q: %q ahead of %v", source, source[end:k.From], k)
			}
			alone, err, _ := Tokens([]byte(source[k.From:k.To]))
			k.From, k.To, end = 0, k.To-k.From, k.To
			if k.Kind != api.TkEnd && (err != api.OK || len(alone) != 2 || alone[0] != k) {
				t.Fatalf("%q: %v alone is %v", source, k, alone)
			}
		}
	}
}

func TestSourceIsNeitherChangedNorKept(t *testing.T) {
	const text = `(name "text" 12 ,@ #\a)` + "tail"
	whole := []byte(text)
	source := whole[:len(text)-4]
	all, _, _ := Tokens(source)
	one, _, _ := Next(source, 1)
	if !bytes.Equal(whole, []byte(text)) {
		t.Fatalf("%q", whole)
	}
	before := show(append(all, one))
	for i := range whole {
		whole[i] = '('
	}
	if after := show(append(all, one)); after != before {
		t.Fatal(after)
	}
	again, _, _ := Tokens([]byte(text[:len(text)-4]))
	again[0].Text = "other"
	if all[0].Text != "" {
		t.Fatal(all[0])
	}
}
