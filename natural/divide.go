package natural

import (
	"math/bits"
	"slices"

	"filigree/api"
)

// DivMod answers the quotient of a by b and the rest, or DivZero if b is 0.
func DivMod(a, b []uint32) (q, r []uint32, k api.Kind) {
	a, b = trim(a), trim(b)
	switch {
	case len(b) == 0:
		return nil, nil, api.DivZero
	case len(a) < len(b):
		return nil, Norm(a), api.OK
	case len(b) == 1:
		q, r = divideByLimb(a, b[0])
	default:
		q, r = divideLong(a, b)
	}
	return q, r, api.OK
}

// divideByLimb divides by a number of one limb, which divideLong can't: its guesses look at two limbs.
func divideByLimb(a []uint32, by uint32) (q, r []uint32) {
	q = make([]uint32, len(a))
	rest := uint64(0)
	for i, limb := range slices.Backward(a) {
		rest = rest<<limbBits | uint64(limb)
		q[i] = uint32(rest / uint64(by))
		rest %= uint64(by)
	}
	return trim(q), Of(rest)
}

// divideLong divides by a number of two limbs or more, by Knuth's algorithm D. Both numbers are normal, and a has no fewer limbs than b.
func divideLong(a, b []uint32) (q, r []uint32) {
	// A divisor whose highest bit is on makes the guesses at most 1 too great. The shift changes no quotient.
	shift := bits.LeadingZeros32(b[len(b)-1])
	rest := shiftLeft(a, shift)
	by := trim(shiftLeft(b, shift))
	q = make([]uint32, len(a)-len(b)+1)
	for i := range slices.Backward(q) {
		window := rest[i : i+len(by)+1]
		guess := guessLimb(window, by)
		if takeTimes(window, by, guess) {
			putBack(window, by)
			guess--
		}
		q[i] = guess
	}
	return trim(q), trim(shiftRight(rest[:len(by)], shift))
}

// guessLimb answers the quotient of window by b, or 1 more. The window is one limb longer than b and below b times 2^32.
func guessLimb(window, b []uint32) uint32 {
	n := len(b)
	high := uint64(b[n-1])
	two := uint64(window[n])<<limbBits | uint64(window[n-1])
	guess, rest := two/high, two%high
	// As soon as the rest fills more than a limb the guess is small enough, and further products would not fit.
	for rest>>limbBits == 0 && (guess>>limbBits != 0 || guess*uint64(b[n-2]) > rest<<limbBits|uint64(window[n-2])) {
		guess--
		rest += high
	}
	return uint32(guess)
}

// takeTimes takes b, that many times, away from window, and tells whether this went below 0.
func takeTimes(window, b []uint32, times uint32) bool {
	carry, borrow := uint64(0), uint32(0)
	for i := range len(b) {
		carry += uint64(b[i]) * uint64(times)
		window[i], borrow = bits.Sub32(window[i], uint32(carry), borrow)
		carry >>= limbBits
	}
	n := len(b)
	window[n], borrow = bits.Sub32(window[n], uint32(carry), borrow)
	return borrow != 0
}

// putBack adds b to window once. The highest limb, which is 0 then, is not looked at any more: nothing is carried there.
func putBack(window, b []uint32) {
	carry := uint32(0)
	for i := range len(b) {
		window[i], carry = bits.Add32(window[i], b[i], carry)
	}
}

// shiftLeft answers a times 2^by, for by below 32, always with one limb more than a.
func shiftLeft(a []uint32, by int) []uint32 {
	shifted := make([]uint32, len(a)+1)
	for i := range len(a) {
		wide := uint64(a[i]) << by
		shifted[i] |= uint32(wide)
		shifted[i+1] = uint32(wide >> limbBits)
	}
	return shifted
}

// shiftRight answers a by 2^by without the rest, for by below 32, with as many limbs as a.
func shiftRight(a []uint32, by int) []uint32 {
	shifted := make([]uint32, len(a))
	above := uint32(0)
	for i, limb := range slices.Backward(a) {
		wide := uint64(above)<<limbBits | uint64(limb)
		shifted[i] = uint32(wide >> by)
		above = limb
	}
	return shifted
}

// Sqrt answers the greatest number whose square is not above a.
func Sqrt(a []uint32) []uint32 {
	a = trim(a)
	if len(a) == 0 {
		return nil
	}
	// Newton's steps from above the root fall until they reach it, and do not fall any more there.
	root := aboveRoot(a)
	for {
		quotient, _, _ := DivMod(a, root)
		next := trim(shiftRight(Add(root, quotient), 1))
		if Cmp(next, root) >= 0 {
			return root
		}
		root = next
	}
}

// aboveRoot answers a power of 2 whose square is above a, by a factor of 4 at most: a near start saves steps.
func aboveRoot(a []uint32) []uint32 {
	length := (len(a)-1)*limbBits + bits.Len32(a[len(a)-1])
	exponent := (length + 1) / 2
	power := make([]uint32, exponent/limbBits+1)
	power[exponent/limbBits] = 1 << (exponent % limbBits)
	return power
}
