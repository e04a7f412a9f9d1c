package lex

import (
	"strconv"
	"strings"
	"unicode"
	"unicode/utf8"

	"athanor/api"
)

const mostLabel = 999999999

// Spell tells a token's one spelling; nothing of what has none.
func Spell(t api.Token) string {
	mark := "#"
	switch t.Kind {
	case api.TkOpen:
		return "("
	case api.TkClose:
		return ")"
	case api.TkVector:
		return "#("
	case api.TkBytes:
		return "#u8("
	case api.TkDot:
		return "."
	case api.TkSkip:
		return "#;"
	case api.TkLabel:
		mark = "="
		fallthrough
	case api.TkRef:
		return spellLabel(t.Num, mark)
	case api.TkBool:
		return spellBool(t.Num)
	case api.TkChar:
		return spellChar(t.Num)
	case api.TkString:
		return spellText(t.Text)
	case api.TkQuote, api.TkInt, api.TkSym:
		return t.Text
	}
	return ""
}

// Symbol tells whether a text is a name: one token TkSym, and nothing beside it.
func Symbol(s string) bool {
	t, err, _ := Next([]byte(s), 0)
	return err == api.OK && t.Kind == api.TkSym && t.Text == s
}

// spellLabel spells #n and a mark.
func spellLabel(num int, mark string) string {
	if num < 0 || num > mostLabel {
		return ""
	}
	return "#" + strconv.Itoa(num) + mark
}

func spellBool(num int) string {
	switch num {
	case 0:
		return "#f"
	case 1:
		return "#t"
	}
	return ""
}

// spellChar spells a letter by its name, by itself, or by its number.
func spellChar(num int) string {
	// Asked as an int: a rune would lose what is above 32 bits.
	if num < 0 || num > unicode.MaxRune || !utf8.ValidRune(rune(num)) {
		return ""
	}
	letter := rune(num)
	for _, n := range letterNames {
		if n.letter == letter {
			return `#\` + n.name
		}
	}
	if '!' <= letter && letter <= '~' {
		return `#\` + string(letter)
	}
	return `#\x` + hexOf(letter)
}

// spellText spells a text between ". Bytes that are no letter's stay as they are: what needs no sign is copied, not told anew.
func spellText(text string) string {
	var out strings.Builder
	out.WriteByte('"')
	copied := 0
	for i, letter := range text {
		if sign := escape(letter); sign != "" {
			out.WriteString(text[copied:i])
			out.WriteString(sign)
			copied = i + 1
		}
	}
	out.WriteString(text[copied:])
	out.WriteByte('"')
	return out.String()
}

// escape is what stands for a letter of a text; nothing, if it stands for itself. All such letters are one byte long.
func escape(letter rune) string {
	switch letter {
	case '"', '\\':
		return `\` + string(letter)
	case '\n':
		return `\n`
	case '\t':
		return `\t`
	case '\r':
		return `\r`
	}
	if letter < ' ' || letter == 127 {
		return `\x` + hexOf(letter) + ";"
	}
	return ""
}

// hexOf is a letter's number in radix 16.
func hexOf(letter rune) string { return strconv.FormatInt(int64(letter), 16) }
