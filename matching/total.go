package matching

import (
	"math"

	"filigree/api"
	"filigree/integer"
)

// total is a sum of numbers, their high and their low halves apart: neither sum leaves its type's range while there are fewer
// than 1 << 31 of them.
type total struct{ high, low int64 }

// half is how many bits the low half of a number has.
const half = 32

// add adds a number to the sum.
func (t *total) add(n int64) {
	t.high += n >> half
	t.low += n & (1<<half - 1)
}

// carried is the same sum, its low half within the low bits.
func (t total) carried() total {
	return total{t.high + t.low>>half, t.low & (1<<half - 1)}
}

// isNegative tells whether the sum is below 0.
func (t total) isNegative() bool { return t.carried().high < 0 }

// nearest is the sum, or of one that the type does not have the number nearest to it.
func (t total) nearest() int64 {
	t = t.carried()
	switch {
	case t.high > math.MaxInt64>>half:
		return math.MaxInt64
	case t.high < math.MinInt64>>half:
		return math.MinInt64
	}
	return t.high<<half | t.low
}

// number is the sum, whatever it is.
func (t total) number() api.Int {
	return integer.Add(integer.Mul(integer.Of(t.high), integer.Of(1<<half)), integer.Of(t.low))
}
