package natural

import (
	"slices"
	"strconv"
	"strings"

	"filigree/api"
)

// pieceDigits is how many decimal digits go at once: as many as always fit into one limb.
const pieceDigits = 9

// pieceNoughts fills a piece up whose number has fewer digits.
const pieceNoughts = "000000000"

// powersOfTen answers ten to the powers from 0 to pieceDigits. One element, cut out, is a number of one limb.
func powersOfTen() [pieceDigits + 1]uint32 {
	ten := [pieceDigits + 1]uint32{1}
	for i := range pieceDigits {
		ten[i+1] = ten[i] * 10
	}
	return ten
}

// Text answers the decimal digits of a, without noughts ahead.
func Text(a []uint32) string {
	pieces := decimalPieces(a)
	if len(pieces) == 0 {
		return "0"
	}
	var text strings.Builder
	for i, piece := range slices.Backward(pieces) {
		digits := strconv.FormatUint(uint64(piece), 10)
		if i < len(pieces)-1 {
			text.WriteString(pieceNoughts[len(digits):])
		}
		text.WriteString(digits)
	}
	return text.String()
}

// decimalPieces answers a in pieces of pieceDigits digits each, the lowest first; the highest one is not 0.
func decimalPieces(a []uint32) []uint32 {
	ten := powersOfTen()
	var pieces []uint32
	for rest := trim(a); len(rest) > 0; {
		quotient, piece, _ := DivMod(rest, ten[pieceDigits:])
		pieces = append(pieces, limbAt(piece, 0))
		rest = quotient
	}
	return pieces
}

// Parse answers the number that s tells as Text would, or BadNumber if Text tells no number so.
func Parse(s string) ([]uint32, api.Kind) {
	if !isDecimal(s) {
		return nil, api.BadNumber
	}
	ten := powersOfTen()
	var number []uint32
	for len(s) > 0 {
		n := min(len(s), pieceDigits)
		number = timesPlus(number, ten[n], pieceValue(s[:n]))
		s = s[n:]
	}
	return number, api.OK
}

// isDecimal tells whether s is decimal digits without noughts ahead.
func isDecimal(s string) bool {
	if s == "" || s[0] == '0' && s != "0" {
		return false
	}
	for i := range len(s) {
		if s[i] < '0' || s[i] > '9' {
			return false
		}
	}
	return true
}

// pieceValue answers the value of at most pieceDigits digits.
func pieceValue(digits string) uint32 {
	value := uint32(0)
	for i := range len(digits) {
		value = value*10 + uint32(digits[i]-'0')
	}
	return value
}

// timesPlus answers the number, taken times, and plus, in the number's own memory: a new list for each piece of a text would cost more than the sum.
func timesPlus(number []uint32, times, plus uint32) []uint32 {
	carry := uint64(plus)
	for i := range len(number) {
		carry += uint64(number[i]) * uint64(times)
		number[i] = uint32(carry)
		carry >>= limbBits
	}
	if carry == 0 {
		return number
	}
	return append(number, uint32(carry))
}
