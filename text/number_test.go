package text_test

import (
	"math"
	"strconv"
	"strings"
	"testing"

	"filigree/api"
	"filigree/text"
)

// isNumber fails the test unless s is the text of want.
func isNumber(t *testing.T, s string, want int64) {
	t.Helper()
	got, kind := text.Number(s)
	if got != want || kind != api.OK {
		t.Errorf("Number(%q): %d, kind %d, not %d", s, got, int(kind), want)
	}
}

// isNoNumber fails the test unless s is the text of no number.
func isNoNumber(t *testing.T, s string) {
	t.Helper()
	got, kind := text.Number(s)
	if got != 0 || kind != api.BadNumber {
		t.Errorf("Number(%q): %d, kind %d, not BadNumber", short(s), got, int(kind))
	}
}

// P501: numbers of one and of many digits, on both sides of 0, and those at the ends of an int64.
func TestNumber(t *testing.T) {
	isNumber(t, "0", 0)
	isNumber(t, "7", 7)
	isNumber(t, "-7", -7)
	isNumber(t, "10", 10)
	isNumber(t, "-10", -10)
	isNumber(t, "2147483648", 1<<31)
	isNumber(t, "-2147483649", -1<<31-1)
	isNumber(t, "1234567890123456789", 1234567890123456789)
	isNumber(t, "-1234567890123456789", -1234567890123456789)
	isNumber(t, "9223372036854775806", math.MaxInt64-1)
	isNumber(t, "9223372036854775807", math.MaxInt64)
	isNumber(t, "-9223372036854775807", math.MinInt64+1)
	isNumber(t, "-9223372036854775808", math.MinInt64)
}

// P501: each power of two, and its neighbours, both with and without a sign.
func TestNumberAtPowers(t *testing.T) {
	for i := range 63 {
		power := int64(1) << i
		for _, n := range []int64{power - 1, power, -power, -power - 1} {
			isNumber(t, strconv.FormatInt(n, 10), n)
		}
	}
}

// P501: whole numbers that are no int64.
func TestNumberBeyond(t *testing.T) {
	for _, s := range []string{
		"9223372036854775808", "-9223372036854775809", "9223372036854775810", "-9223372036854775810",
		"9300000000000000000", "-9300000000000000000", "18446744073709551615", "18446744073709551616", "18446744073709551617",
		"-18446744073709551616", "10000000000000000000", "99999999999999999999", "36893488147419103232",
		"340282366920938463463374607431768211456", strings.Repeat("9", 1000), "-" + strings.Repeat("9", 1000), "1" + strings.Repeat("0", 64),
	} {
		isNoNumber(t, s)
	}
}

// P501: texts that are none: signs, noughts ahead, blanks, other bytes and other digits.
func TestNoNumber(t *testing.T) {
	for _, s := range []string{
		"", "-", "--", "--1", "+", "+1", "+0", "-0", "00", "-00", "000", "01", "-01", "007", "0-", "0-1", "1-", "1-1", "-+1", "+-1",
		"09223372036854775807", "-09223372036854775808", "+9223372036854775807",
		" ", " 1", "1 ", "1 2", "- 1", "\t1", "1\t", "1\n", "\n1", "1\r", "\n", "1\x00", "\x00", "\x001",
		"a", "1a", "a1", "x", "0x1", "0x", "0b1", "0o7", "1_000", "_1", "1_", "1,000", "1.0", ".5", "1.", "1e3", "1E3", "1e", "inf", "NaN", "nil", "true",
		"/", ":", "1/", "1:", "\u00b2", "\u0663", "\uff11", "\u2212" + "1", "\u2013" + "1", "1\u00a0", "\ufeff1", "\xff", "1\xff", "\xb1", "\x801",
	} {
		isNoNumber(t, s)
	}
}

// P501: of all short texts of these bytes just those of the numbers, held against the numbers' own list.
func TestNumberOfAllShortTexts(t *testing.T) {
	numbers := map[string]int64{}
	for n := int64(-9999); n <= 9999; n++ {
		numbers[strconv.FormatInt(n, 10)] = n
	}
	const letters = "-+ 01289_a/:"
	texts := []string{""}
	for range 4 {
		var longer []string
		for _, s := range texts {
			if n, is := numbers[s]; is {
				isNumber(t, s, n)
			} else {
				isNoNumber(t, s)
			}
			for _, c := range []byte(letters) {
				longer = append(longer, s+string(c))
			}
		}
		texts = longer
	}
}
