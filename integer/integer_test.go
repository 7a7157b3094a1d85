package integer_test

import (
	"math"
	"math/big"
	"testing"

	"filigree/api"
	"filigree/integer"
)

// P201: Of, the least int64 too.
func TestOf(t *testing.T) {
	isNumber(t, "Of(0)", integer.Of(0), false)
	isNumber(t, "Of(1)", integer.Of(1), false, 1)
	isNumber(t, "Of(-1)", integer.Of(-1), true, 1)
	isNumber(t, "Of(2^32-1)", integer.Of(top), false, top)
	isNumber(t, "Of(-2^32)", integer.Of(-1<<32), true, 0, 1)
	isNumber(t, "Of of the greatest", integer.Of(math.MaxInt64), false, top, top>>1)
	isNumber(t, "Of of the least but one", integer.Of(math.MinInt64+1), true, top, top>>1)
	isNumber(t, "Of of the least", integer.Of(math.MinInt64), true, 0, 1<<31)
	d := dice(201)
	for range 2000 {
		n := int64(d.next()) >> d.below(64)
		isWide(t, "Of", integer.Of(n), big.NewInt(n))
	}
}

// P201: Norm, of 0 with Neg on too.
func TestNorm(t *testing.T) {
	isNumber(t, "Norm of 0", integer.Norm(api.Int{}), false)
	isNumber(t, "Norm of -0", integer.Norm(api.Int{Neg: true}), false)
	isNumber(t, "Norm of -0 of no limb", integer.Norm(api.Int{Neg: true, Mag: []uint32{}}), false)
	isNumber(t, "Norm of -0 of two limbs", integer.Norm(api.Int{Neg: true, Mag: []uint32{0, 0}}), false)
	isNumber(t, "Norm of a normal number", integer.Norm(api.Int{Neg: true, Mag: []uint32{0, 7}}), true, 0, 7)
	isNumber(t, "Norm of one that is not", integer.Norm(api.Int{Neg: true, Mag: []uint32{0, 7, 0, 0}}), true, 0, 7)
	isNumber(t, "Norm of one above 0 that is not", integer.Norm(api.Int{Mag: []uint32{5, 0}}), false, 5)
	for _, p := range pairs(40, 200) {
		isWide(t, "Norm", integer.Norm(p[0]), wide(p[0]))
	}
}

// P201: Cmp of each sign with each.
func TestCmp(t *testing.T) {
	for _, c := range []struct{ a, b, want int64 }{
		{0, 0, 0}, {-1, 0, -1}, {0, -1, 1}, {1, 0, 1}, {0, 1, -1}, {-1, 1, -1}, {1, -1, 1},
		{-5, -3, -1}, {-3, -5, 1}, {3, 5, -1}, {5, 3, 1}, {-5, 3, -1}, {3, -5, 1}, {-5, -5, 0},
		{math.MinInt64, math.MaxInt64, -1}, {math.MinInt64, math.MinInt64 + 1, -1}, {-1 << 32, -1, -1},
	} {
		if got := integer.Cmp(integer.Of(c.a), integer.Of(c.b)); got != int(c.want) {
			t.Errorf("Cmp(%d, %d): %d, not %d", c.a, c.b, got, c.want)
		}
	}
	for _, p := range pairs(6, 1500) {
		if got, want := integer.Cmp(p[0], p[1]), wide(p[0]).Cmp(wide(p[1])); got != want {
			t.Fatalf("Cmp(%v, %v): %d, not %d", p[0], p[1], got, want)
		}
	}
}

// P201: Neg.
func TestNeg(t *testing.T) {
	isNumber(t, "Neg of 0", integer.Neg(api.Int{}), false)
	isNumber(t, "Neg of 0 of one limb", integer.Neg(api.Int{Mag: []uint32{0}}), false)
	isNumber(t, "Neg of -0", integer.Neg(api.Int{Neg: true}), false)
	isNumber(t, "Neg of 5", integer.Neg(integer.Of(5)), true, 5)
	isNumber(t, "Neg of -5", integer.Neg(integer.Of(-5)), false, 5)
	isNumber(t, "Neg of the least int64", integer.Neg(integer.Of(math.MinInt64)), false, 0, 1<<31)
	for _, p := range pairs(40, 200) {
		isWide(t, "Neg", integer.Neg(p[0]), new(big.Int).Neg(wide(p[0])))
	}
}

// P202: sums of each sign with each, and sums that are 0.
func TestAdd(t *testing.T) {
	isNumber(t, "7 + -7", integer.Add(integer.Of(7), integer.Of(-7)), false)
	isNumber(t, "-7 + 7", integer.Add(integer.Of(-7), integer.Of(7)), false)
	isNumber(t, "-7 + 5", integer.Add(integer.Of(-7), integer.Of(5)), true, 2)
	isNumber(t, "5 + -7", integer.Add(integer.Of(5), integer.Of(-7)), true, 2)
	isNumber(t, "7 + -5", integer.Add(integer.Of(7), integer.Of(-5)), false, 2)
	isNumber(t, "-0 + -0", integer.Add(api.Int{Neg: true}, api.Int{Neg: true, Mag: []uint32{0}}), false)
	isNumber(t, "-0 + 0", integer.Add(api.Int{Neg: true}, api.Int{}), false)
	isNumber(t, "the least int64, twice", integer.Add(integer.Of(math.MinInt64), integer.Of(math.MinInt64)), true, 0, 0, 1)
	for _, p := range pairs(30, 1500) {
		isWide(t, "Add", integer.Add(p[0], p[1]), new(big.Int).Add(wide(p[0]), wide(p[1])))
	}
}

// P202: differences of each sign with each, and differences that are 0.
func TestSub(t *testing.T) {
	isNumber(t, "3 - 3", integer.Sub(integer.Of(3), integer.Of(3)), false)
	isNumber(t, "-3 - -3", integer.Sub(integer.Of(-3), integer.Of(-3)), false)
	isNumber(t, "0 - 3", integer.Sub(integer.Of(0), integer.Of(3)), true, 3)
	isNumber(t, "3 - 5", integer.Sub(integer.Of(3), integer.Of(5)), true, 2)
	isNumber(t, "-3 - 5", integer.Sub(integer.Of(-3), integer.Of(5)), true, 8)
	isNumber(t, "3 - -5", integer.Sub(integer.Of(3), integer.Of(-5)), false, 8)
	isNumber(t, "0 - -0", integer.Sub(api.Int{}, api.Int{Neg: true}), false)
	isNumber(t, "-0 - 0", integer.Sub(api.Int{Neg: true}, api.Int{}), false)
	for _, p := range pairs(30, 1500) {
		isWide(t, "Sub", integer.Sub(p[0], p[1]), new(big.Int).Sub(wide(p[0]), wide(p[1])))
	}
}

// P202: products of each sign with each, and with 0.
func TestMul(t *testing.T) {
	isNumber(t, "-3 * 5", integer.Mul(integer.Of(-3), integer.Of(5)), true, 15)
	isNumber(t, "3 * -5", integer.Mul(integer.Of(3), integer.Of(-5)), true, 15)
	isNumber(t, "-3 * -5", integer.Mul(integer.Of(-3), integer.Of(-5)), false, 15)
	isNumber(t, "-3 * 0", integer.Mul(integer.Of(-3), integer.Of(0)), false)
	isNumber(t, "0 * -3", integer.Mul(api.Int{Mag: []uint32{0, 0}}, integer.Of(-3)), false)
	isNumber(t, "-0 * 3", integer.Mul(api.Int{Neg: true}, integer.Of(3)), false)
	for _, p := range pairs(30, 1500) {
		isWide(t, "Mul", integer.Mul(p[0], p[1]), new(big.Int).Mul(wide(p[0]), wide(p[1])))
	}
	for _, p := range pairs(1500, 5) {
		isWide(t, "Mul", integer.Mul(p[0], p[1]), new(big.Int).Mul(wide(p[0]), wide(p[1])))
	}
}
