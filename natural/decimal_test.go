package natural_test

import (
	"strings"
	"testing"

	"filigree/api"
	"filigree/natural"
)

// P104: Text and Parse of ordinary numbers and at the edges of limbs and of pieces of nine digits.
func TestTextAndParse(t *testing.T) {
	for _, c := range []struct {
		text  string
		limbs []uint32
	}{
		{"0", nil},
		{"1", []uint32{1}},
		{"10", []uint32{10}},
		{"999999999", []uint32{999999999}},
		{"1000000000", []uint32{1000000000}},
		{"4294967295", []uint32{top}},
		{"4294967296", []uint32{0, 1}},
		{"1000000000000000000", []uint32{2808348672, 232830643}},
		{"18446744073709551615", []uint32{top, top}},
		{"18446744073709551616", []uint32{0, 0, 1}},
	} {
		isLimbs(t, "Parse("+c.text+")", parsed(t, c.text), c.limbs...)
		if got := natural.Text(c.limbs); got != c.text {
			t.Errorf("Text(%v): %q, not %q", c.limbs, got, c.text)
		}
		if got := natural.Text(append(c.limbs, 0, 0)); got != c.text {
			t.Errorf("Text(%v), not normal: %q, not %q", c.limbs, got, c.text)
		}
	}
}

// P104: every length of text, with noughts inside, comes back as it was.
func TestTextOfParse(t *testing.T) {
	for n := range 200 {
		for _, s := range []string{"1" + strings.Repeat("0", n), "9" + strings.Repeat("9", n), "5" + strings.Repeat("0", n) + "7"} {
			if got := natural.Text(parsed(t, s)); got != s {
				t.Fatalf("Text of Parse of %q: %q", s, got)
			}
		}
	}
}

// P104: Text as the library tells it.
func TestText(t *testing.T) {
	for _, p := range append(pairs(40, 500), pairs(1500, 3)...) {
		if got, want := natural.Text(p[0]), wide(p[0]).String(); got != want {
			t.Fatalf("Text(%v): %q, not %q", p[0], got, want)
		}
		isWide(t, "Parse", parsed(t, wide(p[0]).String()), wide(p[0]))
	}
}

// P104: texts that are no number, with nothing beside the error.
func TestParseBadNumber(t *testing.T) {
	long := strings.Repeat("123456789", 20)
	for _, s := range []string{
		"", " ", "00", "01", "000000000", "0000000001", "-1", "-0", "+1", "-", "+",
		" 1", "1 ", "1\n", "\t1", "1 2", "1_000", "1,000", "1.0", "1e3", "0x10", "a", "12a", "a12",
		"/", ":", "1/", "1:", "\x00", "1\x00", "\xff", "1\xff2", "\u0661\u0662", "\u00b2", "\uff11",
		"0" + long, long + "x", "x" + long, long[:90] + " " + long[:90],
	} {
		a, k := natural.Parse(s)
		if k != api.BadNumber || len(a) != 0 {
			t.Errorf("Parse(%q): %v, kind %d, not BadNumber", s, a, int(k))
		}
	}
}
