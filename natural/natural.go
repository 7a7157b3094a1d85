// Package natural is layer 1: natural numbers without a bound. See shared/doc/01-natural.md.
package natural

import (
	"cmp"
	"math/bits"
	"slices"

	"filigree/api"
)

// limbBits is how many bits a limb holds.
const limbBits = 32

// Of answers n as a normal number.
func Of(n uint64) []uint32 {
	return trim([]uint32{uint32(n), uint32(n >> limbBits)})
}

// Norm answers the normal form of a, in memory of its own.
func Norm(a []uint32) []uint32 {
	a = trim(a)
	number := make([]uint32, len(a))
	copy(number, a)
	return number
}

// Cmp answers -1, 0 or 1 as a is below, as, or above b.
func Cmp(a, b []uint32) int {
	a, b = trim(a), trim(b)
	if len(a) != len(b) {
		return cmp.Compare(len(a), len(b))
	}
	for i, limb := range slices.Backward(a) {
		if limb != b[i] {
			return cmp.Compare(limb, b[i])
		}
	}
	return 0
}

// Add answers the sum of a and b.
func Add(a, b []uint32) []uint32 {
	a, b = trim(a), trim(b)
	n := max(len(a), len(b))
	sum := make([]uint32, n+1)
	carry := uint32(0)
	for i := range n {
		sum[i], carry = bits.Add32(limbAt(a, i), limbAt(b, i), carry)
	}
	sum[n] = carry
	return trim(sum)
}

// Sub answers a less b, or Negative if a is below b.
func Sub(a, b []uint32) ([]uint32, api.Kind) {
	if Cmp(a, b) < 0 {
		return nil, api.Negative
	}
	a = trim(a)
	difference := make([]uint32, len(a))
	borrow := uint32(0)
	for i := range len(a) {
		difference[i], borrow = bits.Sub32(a[i], limbAt(b, i), borrow)
	}
	return trim(difference), api.OK
}

// Mul answers the product of a and b.
func Mul(a, b []uint32) []uint32 {
	a, b = trim(a), trim(b)
	if len(a) > len(b) { // few long rows cost less than many short ones
		a, b = b, a
	}
	product := make([]uint32, len(a)+len(b))
	for i := range len(a) {
		product[i+len(b)] = addTimes(product[i:], b, a[i])
	}
	return trim(product)
}

// addTimes adds b, taken times, to the lowest limbs of sum, and answers the limb that is carried beyond them.
func addTimes(sum, b []uint32, times uint32) uint32 {
	carry := uint64(0)
	for i := range len(b) {
		// At most (2^32 - 1)^2 + 2 (2^32 - 1) = 2^64 - 1: it fits.
		carry += uint64(b[i])*uint64(times) + uint64(sum[i])
		sum[i] = uint32(carry)
		carry >>= limbBits
	}
	return uint32(carry)
}

// trim answers a without the noughts at its high end. It is a view of a, so what came in must not go out by it.
func trim(a []uint32) []uint32 {
	for i, limb := range slices.Backward(a) {
		if limb != 0 {
			return a[:i+1]
		}
	}
	return nil
}

// limbAt answers the limb of a at a place, which is 0 beyond its end.
func limbAt(a []uint32, place int) uint32 {
	if place < len(a) {
		return a[place]
	}
	return 0
}
