package integer_test

import (
	"strings"
	"testing"

	"filigree/api"
	"filigree/integer"
)

// P205: Text and Parse of ordinary numbers of each sign, and at the edges.
func TestTextAndParse(t *testing.T) {
	for _, c := range []struct {
		text string
		neg  bool
		mag  []uint32
	}{
		{"0", false, nil},
		{"1", false, []uint32{1}},
		{"-1", true, []uint32{1}},
		{"-10", true, []uint32{10}},
		{"-4294967296", true, []uint32{0, 1}},
		{"9223372036854775808", false, []uint32{0, 1 << 31}},
		{"-9223372036854775808", true, []uint32{0, 1 << 31}},
		{"-18446744073709551616", true, []uint32{0, 0, 1}},
	} {
		isNumber(t, "Parse("+c.text+")", parsed(t, c.text), c.neg, c.mag...)
		for _, mag := range [][]uint32{c.mag, append(c.mag, 0, 0)} {
			if got := integer.Text(api.Int{Neg: c.neg, Mag: mag}); got != c.text {
				t.Errorf("Text(%v %v): %q, not %q", c.neg, mag, got, c.text)
			}
		}
	}
}

// P205: 0 is told without a minus, with Neg on too.
func TestTextOfZero(t *testing.T) {
	for _, mag := range [][]uint32{nil, {}, {0}, {0, 0}} {
		for _, neg := range []bool{false, true} {
			if got := integer.Text(api.Int{Neg: neg, Mag: mag}); got != "0" {
				t.Errorf("Text(%v %v): %q", neg, mag, got)
			}
		}
	}
}

// P205: Text as the library tells it, and Parse of it.
func TestTextOfParse(t *testing.T) {
	for _, p := range append(pairs(40, 300), pairs(1000, 3)...) {
		text := wide(p[0]).String()
		if got := integer.Text(p[0]); got != text {
			t.Fatalf("Text(%v): %q, not %q", p[0], got, text)
		}
		isWide(t, "Parse", parsed(t, text), wide(p[0]))
	}
}

// P205: texts that are no number, with nothing beside the error.
func TestParseBadNumber(t *testing.T) {
	long := strings.Repeat("123456789", 20)
	for _, s := range []string{
		"", "-", "--", "-0", "-00", "00", "01", "-01", "--1", "+1", "+0", "-+1", "+-1", "1-", "1-1", "- 1", " -1", "-1 ", "-1\n",
		" ", " 1", "1 ", "1_000", "1,000", "1.0", "-1.0", "1e3", "0x10", "-a", "a", "-12a", "\x00", "-\x00", "-1\xff",
		"\u22121", "\u20131", "-\u0661", "-0" + long, "-" + long + "x", "--" + long, long + "-", "-" + long + "-" + long,
	} {
		a, k := integer.Parse(s)
		isRefused(t, "Parse("+s+")", k, api.BadNumber, a)
	}
}
