package read

import (
	"fmt"
	"math/rand"
	"strings"
	"testing"

	"athanor/api"
	"athanor/graph"
	"athanor/lex"
)

// Two sources, one behind the other, have the data of both, each as it is alone.
func TestDataStandForThemselves(t *testing.T) {
	r := rand.New(rand.NewSource(6))
	for range 4000 {
		a, _ := grow(r, r.Intn(4))
		b, _ := grow(r, r.Intn(4))
		if r.Intn(3) == 0 {
			a = a + "#; " + strings.TrimSuffix(a, "\n ") + " x"
		}
		if _, err, _ := Read([]byte(a)); err != api.OK {
			t.Fatalf("%q: %d", a, err)
		}
		want := graph.Canon(graph.Join(mustRead(t, a), mustRead(t, b)))
		if got := mustRead(t, a+" "+b); !identical(got, want) {
			t.Fatalf("%q and %q: %v, not %v", a, b, got, want)
		}
	}
}

// tokensOf are the tokens of a source that has them.
func tokensOf(t *testing.T, source string) []api.Token {
	t.Helper()
	all, err, _ := lex.Tokens([]byte(source))
	if err != api.OK {
		t.Fatal(source, err)
	}
	return all
}

// Something that is skipped, ahead of any token, changes nothing.
func TestSkippedChangesNothing(t *testing.T) {
	r := rand.New(rand.NewSource(7))
	skipped := []string{"#;x ", "#;(x . y) ", "#;#77=(x . #77#) ", "#;#u8(1 2) ", "#;#;x y ", "#;'x ", "#;#(x #;y) ", `#;"x" `, "#;#;#;1 2 3 "}
	for range 1500 {
		source, _ := grow(r, 1+r.Intn(2))
		for _, k := range tokensOf(t, source) {
			expectSame(t, source[:k.From]+skipped[r.Intn(len(skipped))]+source[k.From:], source)
		}
	}
}

// A label that nothing asks for, ahead of any datum, changes nothing.
func TestLabelsChangeNothing(t *testing.T) {
	r := rand.New(rand.NewSource(8))
	for range 1500 {
		source, _ := grow(r, 1+r.Intn(2))
		var open []int
		for _, k := range tokensOf(t, source) {
			among := len(open) > 0 && open[len(open)-1] == api.TkBytes
			switch k.Kind {
			case api.TkOpen, api.TkVector, api.TkBytes:
				open = append(open, k.Kind)
			case api.TkClose:
				open = open[:len(open)-1]
			}
			if among || k.Kind == api.TkClose || k.Kind == api.TkDot || k.Kind == api.TkEnd || k.Kind == api.TkSkip {
				continue
			}
			expectSame(t, source[:k.From]+fmt.Sprintf("#%d=", 900+r.Intn(9))+source[k.From:], source)
		}
	}
}

// A quote is its list.
func TestQuotesAreLists(t *testing.T) {
	r := rand.New(rand.NewSource(9))
	differ := 0
	for range 5000 {
		short, long := grow(r, 1+r.Intn(3))
		expectSame(t, short, long)
		if short != long {
			differ++
		}
	}
	if differ < 1000 {
		t.Error("too few sources had quotes:", differ)
	}
}
