package read

import (
	"fmt"
	"strings"
	"testing"

	"athanor/api"
)

func TestErrClose(t *testing.T) {
	for source, place := range map[string]int{
		")": 0, " ) a": 1, "a )": 2, "())": 2, "(a . )": 5, "(a .)": 4, "')": 1, "`)": 1, ",)": 1, ",@)": 2, "('))": 2, "#0=)": 3, "(#0=)": 4, "#;)": 2, "(#;)": 3, "(a #;)": 5, "(a . #;)": 7, "(a . #;b)": 8, "(a . b #;)": 9, "#(#;)": 4, "#u8(#;)": 6, "#u8(1 #;)": 8, "#;#;)": 4, "#;#;a)": 5, "'#;a)": 4, "#0=#;a)": 6, "#u8())": 5, "#())": 3, "#;a )": 4, "a ;(\n)": 5,
	} {
		if g, err, p := Read([]byte(source)); err != api.ErrClose || p != place || len(g.Nodes)+len(g.Roots) != 0 {
			t.Errorf("Read(%q): %v, %d at %d", source, g, err, p)
		}
	}
	expectFault(t, "(a . )", api.ErrClose, 5)
	expectFault(t, ")", api.ErrClose, 0)
}

// The end is the source's, whatever blanks and remarks stand ahead of it.
func TestErrEnd(t *testing.T) {
	for _, source := range []string{
		"(", "(a", "(a .", "(a . b", "(a . b #;", "(a . b #;c", "#(", "#(a", "#u8(", "#u8(1", "'", "`", ",", ",@", "#0=", "#;", "(#;", "(#;a", "#;#;a", "'#;a", "#0=#;a", "(()", "'(", "#0=(#0#", "#u8(#;", "#u8(1 #;a", "( )(", "#;(",
	} {
		for _, behind := range []string{"", " ", "\n;x", " #| |#  "} {
			if g, err, p := Read([]byte(source + behind)); err != api.ErrEnd || p != len(source+behind) || len(g.Nodes)+len(g.Roots) != 0 {
				t.Errorf("Read(%q): %v, %d at %d", source+behind, g, err, p)
			}
		}
	}
	expectFault(t, "(a . b ", api.ErrEnd, 7)
	expectFault(t, "#;", api.ErrEnd, 2)
}

func TestErrDot(t *testing.T) {
	for source, place := range map[string]int{
		".": 0, "( . 1)": 2, "(.": 1, "(.)": 1, "(#;a . b)": 5, "(a . . b)": 5, "(a . b . c)": 7, "(a . b c)": 7, "(a . b ())": 7, "(a . b #(": 7, "(a . b #u8(": 7, "(a . b 'c": 7, "(a . b #0=c": 7, "(a . b #0#": 7, "(a . b #;c d)": 11, "(a . #;b . c)": 9, "(a . b \"x\")": 7, "(a . b 1": 7, "(a . b #t": 7, `(a . b #\a`: 7,
		"#(.": 2, "#(a . b)": 4, "#(a .)": 4, "#u8(.": 4, "#u8(1 . 2)": 6, "'.": 1, "`. a": 1, ",.": 1, ", . a": 2, "#0=.": 3, "#;.": 2, "(a #;. b)": 5, "(a . #;. b)": 7, "(a '. b)": 4, "#0=(#0# . #0# #0#)": 14, "(a . b #;c #;d . e)": 15,
	} {
		expectFault(t, source, api.ErrDot, place)
	}
}

func TestErrLabel(t *testing.T) {
	for source, place := range map[string]int{
		"#0#": 0, "#1# #1=a": 0, "(#0# #0=a)": 1, "(#0=a #1#)": 6, "(#0=a #0=b)": 6, "#0=#0=a": 3, "#0=(#0=a)": 4, "(#0=a . #00=b)": 8, "#0=(a '#0=b)": 7,
		"#0=#0#": 3, "#0=#1=#0#": 6, "#0=#1=#1#": 6, "#0=#1=#2=#1#": 9, "(#0=#0#)": 4, "#0='#1=#1#": 7, "#5=(#0=#1=#0#)": 10, "#0=#;a #0#": 7, "#0=#;#0# #0#": 9, "#;#0=#0#": 5,
		"#0=#;#1=#0# #1#": 12, "#0=#;#1=#0# #2=#1#": 15, "#0=#;(#1=#0# #2=#1#) #2#": 21, "#0=#;#1=#0# #;#2=#1# #3=#2#": 24, "#9=#0=#;#1=#0# #1#": 15, "#0=#;#1=#;#2=#1# #0# #1#": 21, "#0=#;#1=#;#2=#1# #0# #2#": 21, "#1=#;#2=#;#3=#1# #3# #2#": 21,
	} {
		expectFault(t, source, api.ErrLabel, place)
	}
}

// A datum that holds itself is none that is itself.
func TestLabelsWithin(t *testing.T) {
	for _, source := range []string{"#0=(#0#)", "#0='#0#", "#0=(#1=#0#)", "#0=(#1=#0# . #1#)", "#0=(a . #0#)", "#0=#(#1=#2=#0#)", "#0=#;#0# a", "(#0=#;#1=#0# a #1#)", "#0=#;#1=#0# (#1#)", "(#0=a #1=#0# #2=#1#)", "#0=(#1=(#2=#0#) #2# . #1#)"} {
		expectRead(t, source)
		mustRead(t, source)
	}
}

func TestErrByte(t *testing.T) {
	for source, place := range map[string]int{
		"#u8(256)": 4, "#u8(-1)": 4, "#u8(1 2 300 4)": 8, "#u8(99999999999999999999)": 4, "#u8(18446744073709551617)": 4, "#u8(a)": 4, "#u8(1 a)": 6, "#u8(#t)": 4, `#u8(#\a)`: 4, `#u8("a")`: 4, "#u8(()": 4, "#u8(#(": 4, "#u8(#u8(1))": 4, "#u8('1)": 4, "#u8(`1)": 4, "#u8(,1)": 4, "#u8(#0=1)": 4, "#0=#u8(#0#)": 7, "#u8(#;1 a)": 8, "#u8(1 #;2 256)": 10, "(#0=1 #u8(#0#))": 10, "#u8(1.0)": 4,
	} {
		expectFault(t, source, api.ErrByte, place)
	}
}

// Where several things are wrong with a token, the first one of the chapter's list counts.
func TestWhichErrorComesFirst(t *testing.T) {
	deep := strings.Repeat("(", api.MaxDepth-1)
	for _, c := range []struct {
		source string
		err    api.Errno
		place  int
	}{
		{"#u8(1 . 2)", api.ErrDot, 6}, {"#u8(#0#)", api.ErrLabel, 4}, {"(#0=a #u8(#0=1))", api.ErrLabel, 10}, {"(a . b #0#)", api.ErrDot, 7}, {"(#0=a . b #0=c)", api.ErrDot, 10}, {"#u8(1 #;)", api.ErrClose, 8}, {"(a . b", api.ErrEnd, 6}, {"#u8(1", api.ErrEnd, 5},
		{deep + "(a . b (", api.ErrDot, api.MaxDepth + 6}, {deep + "(a . b #;c)", api.ErrDeep, api.MaxDepth + 6}, {deep + "(#0# #0=", api.ErrLabel, api.MaxDepth}, {deep + "#u8((", api.ErrByte, api.MaxDepth + 3}, {deep + "#u8(#;", api.ErrDeep, api.MaxDepth + 3}, {"#0=" + deep + "#0=", api.ErrLabel, api.MaxDepth + 2}, {"#0=" + deep + "#1=", api.ErrDeep, api.MaxDepth + 2},
		{"( . ) )", api.ErrDot, 2}, {") (", api.ErrClose, 0}, {"(#u8(x) . )", api.ErrByte, 5}, {"#1# )", api.ErrLabel, 0},
	} {
		expectFault(t, c.source, c.err, c.place)
		expectRead(t, c.source)
	}
}

func TestErrLong(t *testing.T) {
	for _, c := range []struct{ open, item string }{{"#(", "a "}, {"#(", "() "}, {"#(", "'a "}, {"#(", "#;b a "}, {"#u8(", "1 "}, {"#u8(", "255 "}, {"#u8(", "#;b 0 "}} {
		most := c.open + strings.Repeat(c.item, api.MaxItems)
		mustRead(t, most+")")
		mustRead(t, most+"#;x #;y )")
		mustRead(t, "("+most+") "+most+"))")
		expectFault(t, most+c.item+")", api.ErrLong, len(most+c.item))
		expectFault(t, most+c.item+"#;x #;y )", api.ErrLong, len(most+c.item)+8)
		expectFault(t, "("+most+") "+most+c.item+"))", api.ErrLong, 2*len(most)+3+len(c.item))
		// It is the closing that is too late: till then another thing may be wrong, or the end come.
		expectFault(t, most+c.item, api.ErrEnd, len(most+c.item))
		expectFault(t, most+c.item+". )", api.ErrDot, len(most+c.item))
		expectRead(t, most+")")
	}
	if g := mustRead(t, "#u8("+strings.Repeat("7 ", api.MaxItems)+")"); g.Nodes[0].Text != strings.Repeat("\x07", api.MaxItems) {
		t.Error("bytes that are as long as may be:", g)
	}
	if g := mustRead(t, "#("+strings.Repeat("7 ", api.MaxItems)+")"); len(g.Nodes) != 2 || len(g.Nodes[0].Kids) != api.MaxItems {
		t.Error("a vector that is as long as may be:", g)
	}
}

// A list is as long as the source lets it.
func TestLongLists(t *testing.T) {
	g := mustRead(t, "("+strings.Repeat("a ", api.MaxSource/2-1)+")")
	if len(g.Nodes) != api.MaxSource/2-1+2 {
		t.Error("nodes of a long list:", len(g.Nodes))
	}
	if g := mustRead(t, strings.Repeat("a ", api.MaxSource/2)); len(g.Nodes) != 1 || len(g.Roots) != api.MaxSource/2 {
		t.Error("many data:", len(g.Nodes), len(g.Roots))
	}
	if g := mustRead(t, strings.Repeat("()", api.MaxSource/2)); len(g.Nodes) != 1 || len(g.Roots) != api.MaxSource/2 {
		t.Error("many data:", len(g.Nodes), len(g.Roots))
	}
	mustRead(t, "("+strings.Repeat("a ", api.MaxItems+1)+"#;b . c #;d)")
}

// wraps are what may stand around a datum, each one level.
var wraps = []struct{ open, end string }{{"(", ")"}, {"(a ", " b)"}, {"(a . ", ")"}, {"#(", ")"}, {"'", ""}, {"`", ""}, {",", ""}, {",@", ""}, {"#%d=", ""}, {"#;", " z"}}

// wrapped is a source with so many things around a datum, and where the datum begins.
func wrapped(open, end string, times int, datum string) (string, int) {
	var b strings.Builder
	for i := range times {
		if strings.Contains(open, "%d") {
			fmt.Fprintf(&b, open, i+7)
		} else {
			b.WriteString(open)
		}
	}
	at := b.Len()
	return b.String() + datum + strings.Repeat(end, times), at
}

func TestErrDeep(t *testing.T) {
	inner := []string{"()", "(a . b)", "#()", "#u8()", "'a", "`a", ",a", ",@a", "#0=a", "#;a b"}
	for _, w := range wraps {
		for _, datum := range inner {
			source, at := wrapped(w.open, w.end, api.MaxDepth-1, datum)
			mustRead(t, source)
			expectRead(t, source)
			source, at = wrapped(w.open, w.end, api.MaxDepth, datum)
			expectFault(t, source, api.ErrDeep, at)
			expectRead(t, source)
		}
		source, _ := wrapped(w.open, w.end, api.MaxDepth, "a")
		mustRead(t, source)
		source, at := wrapped(w.open, w.end, api.MaxDepth+1, "a")
		if _, err, place := Read([]byte(source)); err != api.ErrDeep || place >= at || place <= at-len(w.open)-4 {
			t.Errorf("%s: %d at %d, a at %d", w.open, err, place, at)
		}
	}
	expectFault(t, strings.Repeat("(", api.MaxSource), api.ErrDeep, api.MaxDepth)
	expectFault(t, strings.Repeat("'", api.MaxSource), api.ErrDeep, api.MaxDepth)
}

// Depth counts what is open, not what came ahead: what is whole is within nothing any more.
func TestDepthIsOfWhatIsOpen(t *testing.T) {
	for _, one := range []string{"() ", "(()) ", "'a ", "#;a ", "#u8() ", "#() "} {
		expectRead(t, strings.Repeat(one, 3*api.MaxDepth))
		mustRead(t, strings.Repeat("(", api.MaxDepth-3)+strings.Repeat(one, 3*api.MaxDepth)+strings.Repeat(")", api.MaxDepth-3))
	}
	mustRead(t, strings.Repeat("(a . ", api.MaxDepth)+"b"+strings.Repeat(")", api.MaxDepth))
	mustRead(t, "(a . b "+strings.Repeat("#;c ", 3*api.MaxDepth)+")")
	// Of all sorts within one another.
	source, at := "", 0
	for i := range api.MaxDepth {
		source += []string{"(", "#(", "'", "#;", fmt.Sprintf("#%d=", i), ",@", "(x . "}[i%7]
	}
	at = len(source)
	expectFault(t, source+"'a", api.ErrDeep, at)
	expectFault(t, source+"#u8(", api.ErrDeep, at)
	expectFault(t, source+"a", api.ErrEnd, at+1)
}

// What Tokens refuses goes ahead of all else, wherever it stands.
func TestReadRefusedSources(t *testing.T) {
	for _, c := range []struct {
		source string
		err    api.Errno
		place  int
	}{
		{"[", api.ErrToken, 0}, {") [", api.ErrToken, 2}, {"( . #0# \"", api.ErrToken, 8}, {") #|", api.ErrToken, 2}, {") \xff", api.ErrUtf, 2}, {"[ \xce", api.ErrUtf, 2}, {") #\\xx", api.ErrToken, 2},
		{strings.Repeat("a", api.MaxSource+1), api.ErrLong, 0}, {")" + strings.Repeat("\xff", api.MaxSource), api.ErrLong, 0}, {"(a) #u8", api.ErrToken, 4}, {`"` + strings.Repeat("a", api.MaxItems+1) + `"`, api.ErrToken, 0},
		{strings.Repeat("9", 400), api.ErrToken, 0},
	} {
		if g, err, place := Read([]byte(c.source)); err != c.err || place != c.place || len(g.Nodes)+len(g.Roots) != 0 {
			t.Errorf("Read(%.30q): %d at %d, not %d at %d", c.source, err, place, c.err, c.place)
		}
	}
	mustRead(t, strings.Repeat("a", api.MaxSource))
	mustRead(t, `"`+strings.Repeat("λ", api.MaxItems)+`"`)
}
