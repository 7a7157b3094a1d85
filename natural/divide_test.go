package natural_test

import (
	"math/big"
	"testing"

	"filigree/api"
	"filigree/natural"
)

// isDivided fails the test unless DivMod answers as the library does, or DivZero with nothing beside it.
func isDivided(t *testing.T, a, b []uint32) {
	t.Helper()
	q, r, k := natural.DivMod(a, b)
	if wide(b).Sign() == 0 {
		if k != api.DivZero || len(q) != 0 || len(r) != 0 {
			t.Fatalf("DivMod(%v, %v): %v, %v, kind %d, not DivZero", a, b, q, r, int(k))
		}
		return
	}
	if k != api.OK {
		t.Fatalf("DivMod(%v, %v): kind %d", a, b, int(k))
	}
	wantQ, wantR := new(big.Int).DivMod(wide(a), wide(b), new(big.Int))
	isWide(t, "quotient", q, wantQ)
	isWide(t, "rest", r, wantR)
}

// P103: DivMod at its edges: noughts, numbers that are not normal, and first guesses of a limb that are too great.
func TestDivModEdges(t *testing.T) {
	for _, c := range [][2][]uint32{
		{nil, nil},
		{{7}, {0, 0}},
		{{7, 7}, {}},
		{nil, {5}},
		{{0, 0, 0}, {5, 0, 0}},
		{{5}, {5, 0, 0}},
		{{4}, {5}},
		{{top, top}, {1}},
		{{top, top, top}, {top}},
		{{0, 0, 1}, {top, 0}},
		{{1, 2, 3}, {1, 2, 3, 0}},
		{{0, 2, 3}, {1, 2, 3}},
		{{0, 0, 0, 1}, {1, 1}},
		{{3, 0, 1 << 31}, {1, 0, 1 << 29}}, // one is put back
		{{0, 0, 1 << 31, 1<<31 - 1}, {1, 0, 1 << 31}}, // one is put back
		{{0, top - 1, 1 << 31}, {top, 1 << 31}},       // a guess of more than a limb
		{{0, 0, top, 1 << 31}, {0, top, 1 << 31}},     // highest limbs alike
		{{top, top, top, 1<<31 - 1}, {top, 0, 1 << 31}},
	} {
		isDivided(t, c[0], c[1])
		isDivided(t, c[1], c[0])
	}
}

// P103: DivMod of numbers of all lengths.
func TestDivMod(t *testing.T) {
	for _, p := range pairs(12, 8000) {
		isDivided(t, p[0], p[1])
	}
	for _, p := range pairs(1500, 20) {
		isDivided(t, p[0], p[1])
	}
}

// P103: DivMod just below, at and above a multiple.
func TestDivModNearMultiples(t *testing.T) {
	d := dice(103)
	for range 2000 {
		b, q := natural.Add(d.number(8), natural.Of(1)), natural.Add(d.number(8), natural.Of(1))
		product := natural.Mul(b, q)
		below, _ := natural.Sub(product, natural.Of(1))
		isDivided(t, product, b)
		isDivided(t, below, b)
		isDivided(t, natural.Add(product, natural.Of(1)), b)
	}
}

// P103: Sqrt of small numbers, each of them, with the chapter's example.
func TestSqrtSmall(t *testing.T) {
	isLimbs(t, "Sqrt(nil)", natural.Sqrt(nil))
	isLimbs(t, "Sqrt(0 0)", natural.Sqrt([]uint32{0, 0}))
	isLimbs(t, "Sqrt(99)", natural.Sqrt(natural.Of(99)), 9)
	isLimbs(t, "Sqrt(99), not normal", natural.Sqrt([]uint32{99, 0, 0}), 9)
	isLimbs(t, "Sqrt(2^64-1)", natural.Sqrt(natural.Of(1<<64-1)), top)
	for n := range uint64(3000) {
		isWide(t, "Sqrt", natural.Sqrt(natural.Of(n)), new(big.Int).Sqrt(new(big.Int).SetUint64(n)))
	}
}

// P103: Sqrt of numbers of many limbs, and at and around squares.
func TestSqrt(t *testing.T) {
	for _, p := range pairs(40, 500) {
		square := natural.Mul(p[1], p[1])
		isWide(t, "Sqrt", natural.Sqrt(p[0]), new(big.Int).Sqrt(wide(p[0])))
		isWide(t, "Sqrt of a square", natural.Sqrt(square), wide(p[1]))
		isWide(t, "Sqrt above a square", natural.Sqrt(natural.Add(square, natural.Of(1))), new(big.Int).Sqrt(new(big.Int).Add(wide(square), big.NewInt(1))))
		if below, k := natural.Sub(square, natural.Of(1)); k == api.OK {
			isWide(t, "Sqrt below a square", natural.Sqrt(below), new(big.Int).Sub(wide(p[1]), big.NewInt(1)))
		}
	}
	long := make([]uint32, 2001)
	long[2000] = 5
	isWide(t, "Sqrt of many limbs", natural.Sqrt(long), new(big.Int).Sqrt(wide(long)))
}
