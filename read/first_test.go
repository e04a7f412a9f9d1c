package read

import (
	"math"
	"math/rand"
	"strings"
	"testing"

	"athanor/api"
	"athanor/graph"
)

// expectDatum asks First for the data of another source, and where it ends.
func expectDatum(t *testing.T, source string, at int, datum string, wantEnd int) {
	t.Helper()
	g, end, err, place := First([]byte(source), at)
	if want := mustRead(t, datum); !identical(g, want) || end != wantEnd || err != api.OK || place != 0 {
		t.Errorf("First(%.60q, %d): %v, to %d, %d at %d, not %s, to %d", source, at, g, end, err, place, datum, wantEnd)
	}
}

func TestFirstExamples(t *testing.T) {
	const source = ` (a . b) ;r
 'c #;d  #0=(e #0#)  "f" `
	expectDatum(t, source, 0, "(a . b)", 8)
	expectDatum(t, source, 1, "(a . b)", 8)
	expectDatum(t, source, 2, "a", 3)
	expectDatum(t, source, 5, "b", 7)
	expectDatum(t, source, 8, "'c", 15)
	expectDatum(t, source, 14, "c", 15)
	expectDatum(t, source, 15, "#0=(e #0#)", 31)
	expectDatum(t, source, 16, "#0=(e #0#)", 31)
	expectDatum(t, source, 18, "d", 19)
	expectDatum(t, source, 31, `"f"`, 36)
	expectDatum(t, source, 36, "", len(source))
	expectDatum(t, source, len(source), "", len(source))
	expectDatum(t, "a b", 1, "b", 3)
	expectDatum(t, "ab", 1, "b", 2)
}

func TestFirstOfNothing(t *testing.T) {
	for _, source := range []string{"", " ", ";a", "#;a", " #;(a b) #| |# ", "#;#;a b ;c\n"} {
		expectDatum(t, source, 0, "", len(source))
		expectDatum(t, source, len(source), "", len(source))
	}
	if g, end, err, place := First(nil, 0); len(g.Nodes)+len(g.Roots) != 0 || end != 0 || err != api.OK || place != 0 {
		t.Error("nil:", g, end, err, place)
	}
}

func TestFirstOutside(t *testing.T) {
	for _, source := range []string{"", "a", ")", "(λ)"} {
		for _, at := range []int{-1, len(source) + 1, math.MinInt, math.MaxInt, math.MinInt32, math.MaxInt32} {
			if g, end, err, place := First([]byte(source), at); len(g.Nodes)+len(g.Roots) != 0 || end != 0 || err != api.ErrRange || place != 0 {
				t.Errorf("First(%q, %d): %v, to %d, %d at %d", source, at, g, end, err, place)
			}
		}
	}
}

// What stands behind the datum is not looked at.
func TestFirstLooksNoFurther(t *testing.T) {
	for _, behind := range []string{")", " )", " [", " (", " .", " #0#", " #u8(x)", " #;", " #|", " \"", "'", " " + strings.Repeat("(", api.MaxDepth+1)} {
		for _, datum := range []string{"(a)", "#;x (a)", "'(a)", "#0=(a)", "#u8(1)", `"a"`} {
			expectDatum(t, datum+behind, 0, datum, len(datum))
			expectDatum(t, "] "+datum+behind, 1, datum, len(datum)+2)
			expectDatum(t, ")"+datum+behind, 1, datum, len(datum)+1)
		}
	}
	expectDatum(t, "a [", 0, "a", 1)
	expectDatum(t, "a) [", 0, "a", 1)
}

// What comes first is told, be it no token or no datum.
func TestFirstFaults(t *testing.T) {
	for _, c := range []struct {
		source string
		at     int
		err    api.Errno
		place  int
	}{
		{") [", 0, api.ErrClose, 0}, {"[ )", 0, api.ErrToken, 0}, {"(a) [", 3, api.ErrToken, 4}, {"(a [ . )", 0, api.ErrToken, 3}, {"( . [", 0, api.ErrDot, 2}, {"(a . b [)", 0, api.ErrToken, 7}, {"a b )", 3, api.ErrClose, 4}, {"(a) b)", 5, api.ErrClose, 5}, {"(a", 1, api.OK, 0}, {"#0=a #0#", 4, api.ErrLabel, 5}, {"(#0=a #0#)", 5, api.ErrLabel, 6}, {"(#0=a #0#)", 9, api.ErrClose, 9}, {"#u8(256)", 0, api.ErrByte, 4}, {"a (", 1, api.ErrEnd, 3}, {"a #;", 1, api.ErrEnd, 4}, {"#;) a", 0, api.ErrClose, 2}, {"#;[ a", 0, api.ErrToken, 2}, {"#;a . b", 0, api.ErrDot, 4}, {"'", 0, api.ErrEnd, 1}, {"(a #| b)", 0, api.ErrToken, 3},
		{"#;#0=a #0#", 0, api.ErrLabel, 7},
	} {
		g, end, err, place := First([]byte(c.source), c.at)
		if err != c.err || place != c.place || err != api.OK && (end != 0 || len(g.Nodes)+len(g.Roots) != 0) {
			t.Errorf("First(%q, %d): %v, to %d, %d at %d, not %d at %d", c.source, c.at, g, end, err, place, c.err, c.place)
		}
	}
}

// Sources that are too long or are not UTF-8 go ahead of all else, wherever that shows.
func TestFirstOfRefusedSources(t *testing.T) {
	for _, at := range []int{-1, 0, 1, 2, 5, 9} {
		if g, end, err, place := First([]byte("a ) b\xff"), at); err != api.ErrUtf || place != 5 || end != 0 || len(g.Nodes)+len(g.Roots) != 0 {
			t.Errorf("at %d: %v, to %d, %d at %d", at, g, end, err, place)
		}
		if g, end, err, place := First([]byte("a\xff"+strings.Repeat(" ", api.MaxSource)), at); err != api.ErrLong || place != 0 || end != 0 || len(g.Nodes)+len(g.Roots) != 0 {
			t.Errorf("at %d: %v, to %d, %d at %d", at, g, end, err, place)
		}
	}
	expectDatum(t, "a"+strings.Repeat(" ", api.MaxSource-1), 0, "a", 1)
	expectDatum(t, strings.Repeat(" ", api.MaxSource-1)+"a", 0, "a", api.MaxSource)
	expectDatum(t, strings.Repeat(" ", api.MaxSource), api.MaxSource, "", api.MaxSource)
}

func TestFirstRandomSources(t *testing.T) {
	r := rand.New(rand.NewSource(4))
	for range 4000 {
		source := randomSource(r, 9)
		for at := -1; at <= len(source)+1; at++ {
			expectFirst(t, source, at)
		}
	}
	for range 2000 {
		source, _ := grow(r, 2)
		for range 10 {
			expectFirst(t, source, r.Intn(len(source)+1))
		}
	}
}

// First by First, the data are Read's.
func TestFirstByFirst(t *testing.T) {
	r := rand.New(rand.NewSource(5))
	for range 3000 {
		source, _ := grow(r, r.Intn(5))
		var all api.Graph
		for at, n := 0, 0; ; n++ {
			g, end, err, place := First([]byte(source), at)
			if err != api.OK || place != 0 || end < at || n > 5 {
				t.Fatalf("First(%q, %d): to %d, %d at %d", source, at, end, err, place)
			}
			if len(g.Roots) == 0 {
				if end != len(source) {
					t.Fatalf("First(%q, %d): nothing, to %d", source, at, end)
				}
				break
			}
			all, at = graph.Join(all, g), end
		}
		if want := mustRead(t, source); !identical(graph.Canon(all), want) {
			t.Fatalf("%q: %v, not %v", source, all, want)
		}
	}
}

// The longest sources are read, too: none takes so long that a test would be given up.
func TestLongestSources(t *testing.T) {
	for _, unit := range []string{"a ", "é ", "()", "'a ", "(a . b) ", "#;a ", "#0=a ", "\"\" "} {
		source := []byte("(" + strings.Repeat(unit, (api.MaxSource-2)/len(unit)) + ")")
		if unit == "#0=a " {
			source = []byte(strings.Repeat(unit, api.MaxSource/len(unit)))
		}
		if _, err, _ := Read(source); err != api.OK {
			t.Error(unit, err)
		}
		if _, _, err, _ := First(source, 0); err != api.OK {
			t.Error(unit, err)
		}
	}
}
