package limbs_test

import (
	"math"
	"strings"
	"testing"

	"athanor/api"
	"athanor/limbs"
)

// Promise 1.3: printed and read, radix by radix.

func TestPrint(t *testing.T) {
	for _, a := range samples() {
		for radix := 2; radix <= 36; radix++ {
			got, err := limbs.Print(a, radix)
			if want := toBig(a).Text(radix); got != want || err != api.OK {
				t.Fatalf("Print(%v, %d) = %q, %d; want %q", a, radix, got, err, want)
			}
		}
	}
}

func TestPrintExamples(t *testing.T) {
	for _, c := range []struct {
		n     int64
		radix int
		want  string
	}{
		{0, 2, "0"}, {0, 10, "0"}, {0, 36, "0"}, {255, 16, "ff"}, {-255, 16, "-ff"}, {35, 36, "z"}, {36, 36, "10"},
		{-1, 2, "-1"}, {math.MinInt64, 10, "-9223372036854775808"}, {math.MaxInt64, 10, "9223372036854775807"}, {1000, 10, "1000"},
	} {
		if got, err := limbs.Print(limbs.From(c.n), c.radix); got != c.want || err != api.OK {
			t.Errorf("Print(%d, %d) = %q, %d", c.n, c.radix, got, err)
		}
	}
}

func TestRadix(t *testing.T) {
	for _, c := range []struct {
		radix int
		want  api.Errno
	}{
		{math.MinInt, api.ErrArg}, {-10, api.ErrArg}, {-1, api.ErrArg}, {0, api.ErrArg}, {1, api.ErrArg}, {2, api.OK},
		{36, api.OK}, {37, api.ErrArg}, {math.MaxInt, api.ErrArg}, {1<<32 + 10, api.ErrArg},
	} {
		s, err := limbs.Print(limbs.From(1), c.radix)
		if err != c.want || (s == "1") != (err == api.OK) || err != api.OK && s != "" {
			t.Errorf("Print(1, %d) = %q, %d", c.radix, s, err)
		}
		x, err := limbs.Parse("1", c.radix)
		if err != c.want || err == api.OK && limbs.Cmp(x, limbs.From(1)) != 0 || err != api.OK && !isZero(x) {
			t.Errorf("Parse(1, %d) = %v, %d", c.radix, x, err)
		}
	}
	if _, err := limbs.Parse("no number", 37); err != api.ErrArg {
		t.Errorf("a wrong radix comes ahead of a wrong text: %d", err)
	}
}

func TestParse(t *testing.T) {
	for _, c := range []struct {
		s     string
		radix int
		want  int64
	}{
		{"0", 10, 0}, {"-0", 10, 0}, {"+0", 10, 0}, {"-000", 2, 0}, {"7", 10, 7}, {"+7", 10, 7}, {"-7", 10, -7}, {"007", 10, 7}, {"-007", 8, -7},
		{"ff", 16, 255}, {"FF", 16, 255}, {"fF", 16, 255}, {"-Ff", 16, -255}, {"z", 36, 35}, {"Z", 36, 35}, {"zZ", 36, 35*36 + 35}, {"10", 36, 36},
		{"101", 2, 5}, {"-1", 2, -1}, {"9", 10, 9}, {"a", 11, 10}, {"4294967295", 10, 1<<32 - 1}, {"4294967296", 10, 1 << 32},
		{"9223372036854775807", 10, math.MaxInt64}, {"-9223372036854775808", 10, math.MinInt64},
		{strings.Repeat("0", 5000) + "12", 10, 12},
	} {
		x, err := limbs.Parse(c.s, c.radix)
		if err != api.OK || limbs.Cmp(x, limbs.From(c.want)) != 0 || !limbs.Good(x) {
			t.Errorf("Parse(%q, %d) = %v, %d; want %d", c.s, c.radix, x, err, c.want)
		}
	}
}

func TestParseWrongTexts(t *testing.T) {
	tooBig := strings.Repeat("9", 500)
	for _, c := range []struct {
		s     string
		radix int
	}{
		{"", 10}, {"+", 10}, {"-", 10}, {"+-1", 10}, {"-+1", 10}, {"--1", 10}, {"++1", 10}, {"1-", 10}, {"1+1", 10},
		{" 1", 10}, {"1 ", 10}, {"1 2", 10}, {"- 1", 10}, {"1a", 10}, {"a", 10}, {"2", 2}, {"8", 8}, {"g", 16}, {"G", 16}, {"z", 35}, {"Z", 35},
		{"1.0", 10}, {"1_0", 10}, {"0x10", 16}, {"\x00", 10}, {"1\x00", 10}, {"\xff", 36}, {"1\xc3", 10}, {"\u0661", 10}, {"\uff11", 36}, {"\u212a", 36}, {"\u0131", 36},
		{"/", 36}, {":", 36}, {"@", 36}, {"[", 36}, {"`", 36}, {"{", 36},
		{tooBig + "x", 10}, {"-" + tooBig + "-", 10},
	} {
		if x, err := limbs.Parse(c.s, c.radix); err != api.ErrForm || !isZero(x) {
			t.Errorf("Parse(%q, %d) = %v, %d", c.s, c.radix, x, err)
		}
	}
}

func TestParseBig(t *testing.T) {
	for radix := 2; radix <= 36; radix++ {
		most := toBig(edge(api.MaxLimbs)).Text(radix)
		past := toBigPower(32 * api.MaxLimbs).Text(radix)
		for _, sign := range []string{"", "+", "-"} {
			x, err := limbs.Parse(sign+"000"+most, radix)
			if err != api.OK || len(x.Mag) != api.MaxLimbs || x.Neg != (sign == "-") || limbs.Cmp(size(x), edge(api.MaxLimbs)) != 0 {
				t.Errorf("Parse of the greatest, sign %q, radix %d: %v, %d", sign, radix, x, err)
			}
			if x, err := limbs.Parse(sign+past, radix); err != api.ErrBig || !isZero(x) {
				t.Errorf("Parse of one more, sign %q, radix %d: %v, %d", sign, radix, x, err)
			}
			if x, err := limbs.Parse(sign+past+past, radix); err != api.ErrBig || !isZero(x) {
				t.Errorf("Parse of many more, sign %q, radix %d: %v, %d", sign, radix, x, err)
			}
		}
	}
}

// Promise 1.4: what is printed is read.
func TestPrintedIsRead(t *testing.T) {
	for _, a := range samples() {
		for radix := 2; radix <= 36; radix++ {
			s, _ := limbs.Print(a, radix)
			for _, text := range []string{s, strings.ToUpper(s)} {
				x, err := limbs.Parse(text, radix)
				if err != api.OK {
					t.Fatalf("Parse(%q, %d): error %d", text, radix, err)
				}
				same(t, "back", x, a)
			}
		}
	}
}
