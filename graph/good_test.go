package graph_test

import (
	"math"
	"slices"
	"strings"
	"testing"

	"athanor/api"
	"athanor/graph"
	"athanor/limbs"
)

// Promise 2.1: which graphs are good, and which kinds are atoms.

// fullNodes are good nodes of each kind with all that the kind has, in a graph of three nodes.
func fullNodes() []api.Node {
	return []api.Node{
		null(), node(api.GEof, 0, ""), node(api.GVoid, 0, ""), node(api.GEnv, 0, ""), node(api.GPort, 0, ""),
		node(api.GBool, 1, ""), integer("-12"), node(api.GChar, 'x', ""), text("text"), symbol("name"), pair(0, 1), vector(0, 1, 2), vector(),
		node(api.GBytes, 0, "\xff\x00"), node(api.GProc, 0, "car"), node(api.GRecord, 0, "point", 0, 1, 2), node(api.GRecord, 0, ""),
		node(api.GCond, 2, "", 0, 1), node(api.GValues, 0, "", 0, 1), node(api.GValues, 0, ""),
	}
}

// inThree is a graph with a node in front of two others.
func inThree(n api.Node) api.Graph { return graphOf([]int{0}, n, null(), text("")) }

func checkGood(t *testing.T, n api.Node, want bool) {
	t.Helper()
	if got := graph.Good(inThree(n)); got != want {
		t.Errorf("Good of kind %d, num %d, text %.40q, %d kids = %v", n.Kind, n.Num, n.Text, len(n.Kids), got)
	}
}

func TestEachKindWithWhatItHas(t *testing.T) {
	for _, n := range fullNodes() {
		checkGood(t, n, true)
	}
}

func TestEachKindWithWhatItHasNot(t *testing.T) {
	hasNum := []int{api.GBool, api.GChar, api.GCond}
	hasText := []int{api.GInt, api.GString, api.GSym, api.GBytes, api.GProc, api.GRecord}
	hasKids := []int{api.GPair, api.GVector, api.GRecord, api.GCond, api.GValues}
	for _, n := range fullNodes() {
		if !slices.Contains(hasNum, n.Kind) {
			for _, num := range []int{1, -1, math.MaxInt, math.MinInt} {
				m := n
				m.Num = num
				checkGood(t, m, false)
			}
		}
		if !slices.Contains(hasText, n.Kind) {
			for _, s := range []string{"x", "0", "\x00", "\xff"} {
				m := n
				m.Text = s
				checkGood(t, m, false)
			}
		}
		if !slices.Contains(hasKids, n.Kind) {
			m := n
			m.Kids = []int{0}
			checkGood(t, m, false)
			m.Kids = []int{1, 2}
			checkGood(t, m, false)
			m.Kids = []int{}
			checkGood(t, m, true)
		}
	}
}

func TestKinds(t *testing.T) {
	for _, kind := range []int{0, -1, 18, 19, 1 << 40, math.MinInt, math.MaxInt} {
		for _, n := range fullNodes() {
			n.Kind = kind
			checkGood(t, n, false)
		}
	}
}

func TestNums(t *testing.T) {
	for _, c := range []struct {
		kind, num int
		want      bool
	}{
		{api.GBool, 0, true}, {api.GBool, 1, true}, {api.GBool, 2, false}, {api.GBool, -1, false}, {api.GBool, math.MaxInt, false}, {api.GBool, math.MinInt, false}, {api.GBool, 1 << 32, false},
		{api.GChar, 0, true}, {api.GChar, -1, false}, {api.GChar, 0xd7ff, true}, {api.GChar, 0xd800, false}, {api.GChar, 0xdabc, false}, {api.GChar, 0xdfff, false}, {api.GChar, 0xe000, true},
		{api.GChar, 0xfffe, true}, {api.GChar, 0xffff, true}, {api.GChar, 0x10000, true}, {api.GChar, 0x10ffff, true}, {api.GChar, 0x110000, false},
		{api.GChar, 1<<32 + 'a', false}, {api.GChar, math.MaxInt, false}, {api.GChar, math.MinInt, false}, {api.GChar, -1<<32 + 'a', false},
	} {
		checkGood(t, node(c.kind, c.num, ""), c.want)
	}
	for num, want := range map[int]bool{-1: false, 0: true, 1: true, 2: true, 3: false, math.MinInt: false, math.MaxInt: false, 1 << 32: false} {
		checkGood(t, node(api.GCond, num, "", 0, 1), want)
	}
}

func TestIntegers(t *testing.T) {
	for _, s := range []string{"0", "1", "-1", "9", "10", "-10", "2432902008176640000", "-9223372036854775808"} {
		checkGood(t, integer(s), true)
	}
	for _, s := range []string{"", "-", "+", "+1", "+0", "-0", "00", "007", "-01", " 1", "1 ", "1.0", "1e3", "a", "ff", "--1", "0x1", "1_000", "\x00", "1\xff", "\u0661"} {
		checkGood(t, integer(s), false)
	}
	edge := api.Int{Mag: slices.Repeat([]uint32{math.MaxUint32}, api.MaxLimbs)}
	most, _ := limbs.Print(edge, 10)
	least, _ := limbs.Print(limbs.Neg(edge), 10)
	checkGood(t, integer(most), true)
	checkGood(t, integer(least), true)
	for _, s := range []string{most, least} {
		above := strings.TrimSuffix(s, "5") + "6" // a power of two less one ends on 5
		checkGood(t, integer(above), false)
		checkGood(t, integer(s+"0"), false)
		checkGood(t, integer(s+strings.Repeat("0", 10000)), false)
	}
	checkGood(t, integer(strings.Repeat("0", 10000)), false)
}

// texts with UTF-8, and without.
func utfTexts() ([]string, []string) {
	good := []string{
		"a", "\x00", "\x7f", "\xc2\x80", "\xdf\xbf", "\xe0\xa0\x80", "\xed\x9f\xbf", "\xee\x80\x80", "\xef\xbf\xbd", "\xef\xbf\xbf", "\xf0\x90\x80\x80", "\xf4\x8f\xbf\xbf",
		"a\u00e4\u20ac\U0001d11e", " ", "(", "\n", "\ufeffx",
	}
	bad := []string{
		"\x80", "\xbf", "\xff", "\xfe", "\xc2", "\xe2\x82", "\xf0\x9d\x84", "a\x80", "\xc2a",
		"\xc0\x80", "\xc1\xbf", "\xe0\x80\x80", "\xe0\x9f\xbf", "\xf0\x80\x80\x80", "\xf0\x8f\xbf\xbf", // not in the shortest form
		"\xed\xa0\x80", "\xed\xbf\xbf", "\xed\xa0\x80\xed\xb0\x80", // D800 to DFFF
		"\xf4\x90\x80\x80", "\xf5\x80\x80\x80", "\xf8\x88\x80\x80\x80", // above 10FFFF
		strings.Repeat("a", 100) + "\xc3",
	}
	return good, bad
}

func TestTexts(t *testing.T) {
	good, bad := utfTexts()
	for _, kind := range []int{api.GString, api.GSym, api.GProc, api.GRecord} {
		for _, s := range good {
			checkGood(t, node(kind, 0, s), true)
		}
		for _, s := range bad {
			checkGood(t, node(kind, 0, s), false)
		}
		checkGood(t, node(kind, 0, ""), kind != api.GSym)
	}
	for _, s := range append(good, bad...) {
		checkGood(t, node(api.GBytes, 0, s), len(s) <= api.MaxItems)
	}
	checkGood(t, node(api.GBytes, 0, ""), true)
}

func TestMaxItems(t *testing.T) {
	long := strings.Repeat("x", api.MaxItems)
	checkGood(t, text(long), true)
	checkGood(t, text(long+"x"), false)
	wide := strings.Repeat("\U0001d11e", api.MaxItems) // letters count, not bytes
	checkGood(t, text(wide), true)
	checkGood(t, text(wide+"\U0001d11e"), false)
	checkGood(t, node(api.GBytes, 0, long), true)
	checkGood(t, node(api.GBytes, 0, long+"x"), false)
	checkGood(t, node(api.GBytes, 0, strings.Repeat("\xff", api.MaxItems)), true)
	checkGood(t, node(api.GBytes, 0, strings.Repeat("\xff", api.MaxItems+1)), false)
	checkGood(t, node(api.GBytes, 0, wide), false)
	many := make([]int, api.MaxItems+1)
	checkGood(t, vector(many[1:]...), true)
	checkGood(t, vector(many...), false)
	for _, kind := range []int{api.GRecord, api.GValues} { // these have any
		checkGood(t, node(kind, 0, "", many...), true)
	}
	for _, kind := range []int{api.GSym, api.GProc, api.GRecord} {
		checkGood(t, node(kind, 0, long+long), true)
	}
}

func TestKidsAreCounted(t *testing.T) {
	for _, kind := range []int{api.GPair, api.GCond} {
		for count := range 5 {
			checkGood(t, node(kind, 0, "", make([]int, count)...), count == 2)
		}
	}
}

func TestKidsAreChecked(t *testing.T) {
	for _, p := range []int{-1, 3, 4, math.MinInt, math.MaxInt, 1 << 32} {
		checkGood(t, pair(p, 0), false)
		checkGood(t, pair(0, p), false)
		checkGood(t, node(api.GCond, 0, "", 0, p), false)
		for _, kind := range []int{api.GVector, api.GRecord, api.GValues} {
			checkGood(t, node(kind, 0, "", p), false)
			checkGood(t, node(kind, 0, "", 0, 1, 2, p), false)
		}
	}
	checkGood(t, pair(2, 2), true)
	checkGood(t, pair(0, 0), true)
}

func TestGoodGraphs(t *testing.T) {
	mustBeGood(t, api.Graph{})
	mustBeGood(t, api.Graph{Nodes: []api.Node{}, Roots: []int{}})
	mustBeGood(t, graphOf(nil, null()))
	mustBeGood(t, graphOf([]int{1, 0, 1, 1}, null(), pair(0, 1)))
	for _, g := range samples(500) {
		mustBeGood(t, g)
	}
	for _, g := range badGraphs() {
		if graph.Good(g) {
			t.Errorf("good:\n%s", show(g))
		}
	}
}

func TestAtom(t *testing.T) {
	for kind := -3; kind < 30; kind++ {
		if got := graph.Atom(kind); got != isAtom(kind) {
			t.Errorf("Atom(%d) = %v", kind, got)
		}
	}
	for _, kind := range []int{math.MinInt, math.MaxInt, 1<<32 + api.GNull} {
		if graph.Atom(kind) {
			t.Errorf("Atom(%d)", kind)
		}
	}
}
