package lex

import (
	"math"
	"math/rand"
	"strings"
	"testing"

	"athanor/api"
)

func TestNextExamples(t *testing.T) {
	const source = `(ab  "c;d" #|e|# f)`
	for _, c := range []struct {
		at   int
		want api.Token
	}{
		{0, token(api.TkOpen, 0, "", 0, 1)},
		{1, token(api.TkSym, 0, "ab", 1, 3)},
		{2, token(api.TkSym, 0, "b", 2, 3)},
		{3, token(api.TkString, 0, "c;d", 5, 10)},
		{6, token(api.TkSym, 0, "c", 6, 7)},
		{7, token(api.TkEnd, 0, "", 19, 19)},
		{10, token(api.TkSym, 0, "f", 17, 18)},
		{18, token(api.TkClose, 0, "", 18, 19)},
		{19, token(api.TkEnd, 0, "", 19, 19)},
	} {
		if got, err, place := Next([]byte(source), c.at); got != c.want || err != api.OK || place != 0 {
			t.Errorf("Next at %d: %v, %d at %d", c.at, got, err, place)
		}
	}
	for at, place := range map[int]int{9: 9, 12: 12, 13: 13, 14: 14} {
		if got, err, p := Next([]byte(source), at); got != (api.Token{}) || err != api.ErrToken || p != place {
			t.Errorf("Next at %d: %v, %d at %d", at, got, err, p)
		}
	}
}

func TestNextOutside(t *testing.T) {
	for _, source := range []string{"", "a", "[", "(λ)", " ; a"} {
		for _, at := range []int{-1, len(source) + 1, -2, len(source) + 2, math.MinInt, math.MaxInt, math.MinInt32, math.MaxInt32, math.MaxInt - len(source)} {
			if got, err, place := Next([]byte(source), at); got != (api.Token{}) || err != api.ErrRange || place != 0 {
				t.Errorf("Next(%q, %d): %v, %d at %d", source, at, got, err, place)
			}
		}
		if got, err, place := Next([]byte(source), len(source)); got != token(api.TkEnd, 0, "", len(source), len(source)) || err != api.OK || place != 0 {
			t.Errorf("Next(%q) at its end: %v, %d at %d", source, got, err, place)
		}
	}
	if got, err, _ := Next(nil, 0); got != (api.Token{}) || err != api.OK {
		t.Error("nil:", got, err)
	}
}

// What stands behind the token is not looked at, nor what stands ahead of the place.
func TestNextLooksNoFurther(t *testing.T) {
	for _, source := range []string{"[ a [", `" a "`, "#| a #|", "#\\", "]a] a |#"} {
		for at := 0; at <= len(source); at++ {
			expectNext(t, source, at)
		}
	}
	if got, err, place := Next([]byte("[ a ["), 1); got != token(api.TkSym, 0, "a", 2, 3) || err != api.OK || place != 0 {
		t.Error(got, err, place)
	}
	if got, err, place := Next([]byte("a [b"), 1); got != (api.Token{}) || err != api.ErrToken || place != 2 {
		t.Error(got, err, place)
	}
	if got, err, place := Next([]byte("a #| b"), 1); got != (api.Token{}) || err != api.ErrToken || place != 2 {
		t.Error(got, err, place)
	}
}

// A source that is too long, or is not UTF-8, goes ahead of all else.
func TestNextOfWrongSources(t *testing.T) {
	long := strings.Repeat("a ", api.MaxSource/2)
	for _, at := range []int{0, 1, api.MaxSource, api.MaxSource + 1, api.MaxSource + 2, -1} {
		for _, s := range []string{long + "a", "\xff" + long, "[" + long} {
			if got, err, place := Next([]byte(s), at); got != (api.Token{}) || err != api.ErrLong || place != 0 {
				t.Errorf("too long, at %d: %v, %d at %d", at, got, err, place)
			}
		}
	}
	for _, at := range []int{0, 1, 2, 3, 4, 5, 6, 7, -1, math.MaxInt} {
		if got, err, place := Next([]byte("a [λ\xffb"), at); got != (api.Token{}) || err != api.ErrUtf || place != 5 {
			t.Errorf("no UTF-8, at %d: %v, %d at %d", at, got, err, place)
		}
	}
	for _, at := range []int{0, 1, api.MaxSource - 1, api.MaxSource} {
		expectNext(t, long, at)
	}
}

// A source that began within a letter would not be UTF-8.
func TestNextWithinALetter(t *testing.T) {
	const source = "aλ😀 b"
	for at := 0; at <= len(source); at++ {
		got, err, place := Next([]byte(source), at)
		switch at {
		case 2, 4, 5, 6:
			if got != (api.Token{}) || err != api.ErrUtf || place != at {
				t.Errorf("at %d: %v, %d at %d", at, got, err, place)
			}
		default:
			expectNext(t, source, at)
		}
	}
}

func TestNextOfRandomSources(t *testing.T) {
	r := rand.New(rand.NewSource(3))
	for range 2000 {
		source := randomSource(r)
		for at := -1; at <= len(source)+1; at++ {
			expectNext(t, source, at)
		}
	}
}

// Token by token, Next tells what Tokens does.
func TestNextByNext(t *testing.T) {
	r := rand.New(rand.NewSource(4))
	for range 3000 {
		source := []byte(fineSource(r))
		all, _, _ := Tokens(source)
		at := 0
		for _, want := range all {
			got, err, place := Next(source, at)
			if got != want || err != api.OK || place != 0 {
				t.Fatalf("Next(%q, %d): %v, %d at %d, not %v", source, at, got, err, place, want)
			}
			at = got.To
		}
	}
}
