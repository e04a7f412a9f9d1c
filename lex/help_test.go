package lex

import (
	"fmt"
	"math/big"
	"math/rand"
	"reflect"
	"regexp"
	"strconv"
	"strings"
	"testing"
	"unicode/utf8"

	"athanor/api"
)

func token(kind, num int, text string, from, to int) api.Token {
	return api.Token{Kind: kind, Num: num, Text: text, From: from, To: to}
}

// power is 2^bits in radix 10.
func power(bits uint) *big.Int { return new(big.Int).Lsh(big.NewInt(1), bits) }

// tooBig is the least number above nought that has more than MaxLimbs limbs.
func tooBig() *big.Int { return power(32 * api.MaxLimbs) }

// show is tokens as one line: kinds, numbers and texts, without places.
func show(all []api.Token) string {
	var b strings.Builder
	for _, t := range all {
		fmt.Fprintf(&b, "%d:%d:%q ", t.Kind, t.Num, t.Text)
	}
	return b.String()
}

// expectTokens holds what Tokens answers against the chapter's words (words, below), places and all.
func expectTokens(t *testing.T, source string) {
	t.Helper()
	all, err, place := Tokens([]byte(source))
	wantAll, wantErr, wantPlace := words(source)
	if !reflect.DeepEqual(all, wantAll) || err != wantErr || place != wantPlace {
		t.Fatalf("Tokens(%.200q):\n%v, %d at %d\nnot\n%v, %d at %d", source, all, err, place, wantAll, wantErr, wantPlace)
	}
}

// expectNext holds what Next answers against the first of the tokens of what stands from that place on.
func expectNext(t *testing.T, source string, at int) {
	t.Helper()
	got, err, place := Next([]byte(source), at)
	want, wantErr, wantPlace := firstWord(source, at)
	if got != want || err != wantErr || place != wantPlace {
		t.Fatalf("Next(%.200q, %d): %v, %d at %d, not %v, %d at %d", source, at, got, err, place, want, wantErr, wantPlace)
	}
}

// expectWrong asks for an error of both calls, and nothing beside it.
func expectWrong(t *testing.T, source string, want api.Errno, wantPlace int) {
	t.Helper()
	if all, err, place := Tokens([]byte(source)); len(all) != 0 || err != want || place != wantPlace {
		t.Errorf("Tokens(%.60q): %.100s, %d at %d, not %d at %d", source, show(all), err, place, want, wantPlace)
	}
}

// expectOne asks for one token that is the whole source.
func expectOne(t *testing.T, source string, kind, num int, text string) {
	t.Helper()
	want := []api.Token{token(kind, num, text, 0, len(source)), token(api.TkEnd, 0, "", len(source), len(source))}
	all, err, place := Tokens([]byte(source))
	if !reflect.DeepEqual(all, want) || err != api.OK || place != 0 {
		t.Errorf("Tokens(%.60q): %.100s, %d at %d, not %.100s", source, show(all), err, place, show(want))
	}
}

// The chapter's table a second time, as regular expressions.
var (
	wordGap    = regexp.MustCompile(`^(?:[ \t\n\r]|;[^\n]*)`)
	wordEdge   = regexp.MustCompile(`#\||\|#`)
	wordPlain  = regexp.MustCompile("^(?:[()]|#\\(|#u8\\(|,@|['`,]|#;)")
	wordLabel  = regexp.MustCompile(`^#([0-9]{1,9})([=#])`)
	wordBool   = regexp.MustCompile(`^(#t|#f|#true|#false)(?:[ \t\n\r()";]|\z)`)
	wordChar   = regexp.MustCompile(`^#\\((?s:.)[^ \t\n\r()";]*)`)
	wordHex    = regexp.MustCompile(`^x([0-9a-fA-F]{1,6})$`)
	wordString = regexp.MustCompile(`^"((?:[^"\\]|\\["\\ntr]|\\x[0-9a-fA-F]{1,6};)*)"`)
	wordLetter = regexp.MustCompile(`(?s)\\x[^;]*;|\\.|.`)
	wordOther  = regexp.MustCompile(`^[^ \t\n\r()";]+`)
	wordInt    = regexp.MustCompile(`^[+-]?[0-9]+$`)
	wordName   = regexp.MustCompile(`^[A-Za-z0-9!$%&*/:<=>?^_~+\-.@\x{80}-\x{10FFFF}]+$`)
)

var plainKinds = map[string]int{"(": api.TkOpen, ")": api.TkClose, "#(": api.TkVector, "#u8(": api.TkBytes, "#;": api.TkSkip, "'": api.TkQuote, "`": api.TkQuote, ",": api.TkQuote, ",@": api.TkQuote}

var charNames = map[string]int{"space": 32, "newline": 10, "tab": 9, "return": 13, "null": 0}

// words is Tokens by the chapter's words.
func words(source string) ([]api.Token, api.Errno, int) {
	if len(source) > api.MaxSource {
		return nil, api.ErrLong, 0
	}
	for i := 0; i < len(source); {
		r, size := utf8.DecodeRuneInString(source[i:])
		if r == utf8.RuneError && size == 1 {
			return nil, api.ErrUtf, i
		}
		i += size
	}
	var all []api.Token
	for at := 0; ; {
		at += gapOf(source[at:])
		if at == len(source) {
			return append(all, token(api.TkEnd, 0, "", at, at)), api.OK, 0
		}
		t, ok := wordOf(source[at:])
		if !ok {
			return nil, api.ErrToken, at
		}
		t.From, t.To = at, at+t.To
		all, at = append(all, t), t.To
	}
}

// firstWord is Next by the chapter's words: the first token, if the source began there.
func firstWord(source string, at int) (api.Token, api.Errno, int) {
	if _, err, place := words(source); err == api.ErrLong || err == api.ErrUtf {
		return api.Token{}, err, place
	}
	if at < 0 || at > len(source) {
		return api.Token{}, api.ErrRange, 0
	}
	if _, err, place := words(source[at:]); err == api.ErrUtf {
		return api.Token{}, err, at + place
	}
	at += gapOf(source[at:])
	if at == len(source) {
		return token(api.TkEnd, 0, "", at, at), api.OK, 0
	}
	t, ok := wordOf(source[at:])
	if !ok {
		return api.Token{}, api.ErrToken, at
	}
	t.From, t.To = at, at+t.To
	return t, api.OK, 0
}

// gapOf is how many bytes of blanks and remarks stand at the front.
func gapOf(rest string) int {
	size := 0
	for {
		s := rest[size:]
		n := len(wordGap.FindString(s))
		if strings.HasPrefix(s, "#|") {
			depth := 0
			for _, e := range wordEdge.FindAllStringIndex(s, -1) {
				if s[e[0]] == '#' {
					depth++
				} else if depth--; depth == 0 {
					n = e[1]
					break
				}
			}
		}
		if n == 0 {
			return size
		}
		size += n
	}
}

// wordOf is the token at the front, its size in To.
func wordOf(s string) (api.Token, bool) {
	if p := wordPlain.FindString(s); p != "" {
		t := token(plainKinds[p], 0, "", 0, len(p))
		if t.Kind == api.TkQuote {
			t.Text = p
		}
		return t, true
	}
	if m := wordLabel.FindStringSubmatch(s); m != nil {
		n, _ := strconv.Atoi(m[1])
		return token(map[string]int{"=": api.TkLabel, "#": api.TkRef}[m[2]], n, "", 0, len(m[0])), true
	}
	if m := wordBool.FindStringSubmatch(s); m != nil {
		return token(api.TkBool, map[string]int{"#t": 1, "#true": 1}[m[1]], "", 0, len(m[1])), true
	}
	if m := wordChar.FindStringSubmatch(s); m != nil {
		n, ok := charOf(m[1])
		return token(api.TkChar, n, "", 0, len(m[0])), ok
	}
	if s[0] == '"' {
		m := wordString.FindStringSubmatch(s)
		if m == nil {
			return api.Token{}, false
		}
		text, ok := stringOf(m[1])
		return token(api.TkString, 0, text, 0, len(m[0])), ok
	}
	return otherOf(wordOther.FindString(s))
}

func charOf(s string) (int, bool) {
	if utf8.RuneCountInString(s) == 1 {
		return int([]rune(s)[0]), true
	}
	if n, ok := charNames[s]; ok {
		return n, true
	}
	return hexOfWord(s)
}

func hexOfWord(s string) (int, bool) {
	m := wordHex.FindStringSubmatch(s)
	if m == nil {
		return 0, false
	}
	n, ok := new(big.Int).SetString(m[1], 16)
	if !ok || n.Int64() > 0x10FFFF || n.Int64() >= 0xD800 && n.Int64() <= 0xDFFF {
		return 0, false
	}
	return int(n.Int64()), true
}

func stringOf(inside string) (string, bool) {
	var letters []rune
	for _, l := range wordLetter.FindAllString(inside, -1) {
		switch {
		case len(l) > 2 && l[:2] == `\x`:
			n, ok := hexOfWord(strings.TrimSuffix(l[1:], ";"))
			if !ok {
				return "", false
			}
			letters = append(letters, rune(n))
		case len(l) == 2 && l[0] == '\\':
			letters = append(letters, map[byte]rune{'"': 34, '\\': 92, 'n': 10, 't': 9, 'r': 13}[l[1]])
		default:
			letters = append(letters, []rune(l)...)
		}
	}
	return string(letters), len(letters) <= api.MaxItems
}

func otherOf(s string) (api.Token, bool) {
	switch {
	case s == ".":
		return token(api.TkDot, 0, "", 0, 1), true
	case wordInt.MatchString(s):
		n, _ := new(big.Int).SetString(s, 10)
		return token(api.TkInt, 0, n.String(), 0, len(s)), n.BitLen() <= 32*api.MaxLimbs
	}
	return token(api.TkSym, 0, s, 0, len(s)), wordName.MatchString(s)
}

// pieces are what random sources are put together of: tokens, what is nearly one, gaps, edges.
var pieces = []string{
	"(", ")", "#(", "#u8(", "#u8", "#u", "'", "`", ",", ",@", "@", ".", "..", "...", "#;", "#0=", "#0#", "#00012=", "#123456789#", "#1234567890=", "#7", "#", "##",
	"#t", "#f", "#true", "#false", "#tr", "#T", `#\`, `#\a`, `#\x`, `#\x4`, `#\x3bb`, `#\x3BB`, `#\x10FFFF`, `#\x110000`, `#\xd800`, `#\x0000041`, `#\space`, `#\newline`, `#\tab`, `#\return`, `#\null`, `#\nul`, `#\λ`, `#\(`, `#\)`, `#\"`, `#\;`, `#\ `, "#\\\n",
	`""`, `"a"`, `"`, `\`, `\"`, `"\""`, `"\\"`, `"\n\t\r"`, `"\x41;"`, `"\x;"`, `"\xD800;"`, `"\x1234567;"`, `"\q"`, "\"λ\n\"", `\x41;`,
	"0", "1", "-002", "+5", "-", "+", "-0", "1a", "+a", "a", "quote", "list->string", "λ", "\u0080", "\uFFFD", "😀", "[", "]", "{", "}", "|", "\x00", "\x7f", "a'b", "a#b", "\u00a0",
	" ", "\t", "\n", "\r", "\r\n", "  ", ";", "; a\n", ";", "#|", "|#", "#| a |#", "#|#||#|#", "#||#", "||", "#||",
}

// randomSource is a source of some pieces.
func randomSource(r *rand.Rand) string {
	var b strings.Builder
	for n := r.Intn(12); n > 0; n-- {
		b.WriteString(pieces[r.Intn(len(pieces))])
		if r.Intn(3) == 0 {
			b.WriteString(" ")
		}
	}
	return b.String()
}

// fineSource is a source that has no error: of pieces that are tokens, or gaps, with a gap between.
func fineSource(r *rand.Rand) string {
	var b strings.Builder
	for n := r.Intn(12); n > 0; {
		p := pieces[r.Intn(len(pieces))]
		if _, err, _ := words(p); err != api.OK {
			continue
		}
		b.WriteString(p + "\n")
		n--
	}
	return b.String()
}
