package integer_test

import (
	"fmt"
	"math"
	"math/big"
	"testing"

	"filigree/api"
	"filigree/integer"
)

// isDivided fails the test unless DivMod and Exact answer as the library does, whose DivMod leaves no rest below 0 either.
func isDivided(t *testing.T, a, b api.Int) {
	t.Helper()
	q, r, k := integer.DivMod(a, b)
	exact, kindExact := integer.Exact(a, b)
	what := fmt.Sprintf("%v by %v", wide(a), wide(b))
	if wide(b).Sign() == 0 {
		isRefused(t, "DivMod, "+what, k, api.DivZero, q, r)
		isRefused(t, "Exact, "+what, kindExact, api.DivZero, exact)
		return
	}
	wantQ, wantR := new(big.Int).DivMod(wide(a), wide(b), new(big.Int))
	if k != api.OK {
		t.Fatalf("DivMod, %s: kind %d", what, int(k))
	}
	isWide(t, "quotient, "+what, q, wantQ)
	isWide(t, "rest, "+what, r, wantR)
	if wantR.Sign() != 0 {
		isRefused(t, "Exact, "+what, kindExact, api.NotExact, exact)
		return
	}
	if kindExact != api.OK {
		t.Fatalf("Exact, %s: kind %d", what, int(kindExact))
	}
	isWide(t, "Exact, "+what, exact, wantQ)
}

// P203: DivMod of each sign by each, with the chapter's example.
func TestDivModSigns(t *testing.T) {
	for _, c := range []struct{ a, b, q, r int64 }{
		{-7, 2, -4, 1}, {7, 2, 3, 1}, {7, -2, -3, 1}, {-7, -2, 4, 1},
		{-8, 2, -4, 0}, {8, 2, 4, 0}, {8, -2, -4, 0}, {-8, -2, 4, 0},
		{-1, 5, -1, 4}, {1, 5, 0, 1}, {1, -5, 0, 1}, {-1, -5, 1, 4},
		{0, 5, 0, 0}, {0, -5, 0, 0}, {-5, 1, -5, 0}, {-5, -1, 5, 0},
		{math.MinInt64, math.MaxInt64, -2, math.MaxInt64 - 1},
	} {
		q, r, k := integer.DivMod(integer.Of(c.a), integer.Of(c.b))
		if k != api.OK {
			t.Fatalf("DivMod(%d, %d): kind %d", c.a, c.b, int(k))
		}
		isWide(t, fmt.Sprintf("quotient of %d by %d", c.a, c.b), q, big.NewInt(c.q))
		isWide(t, fmt.Sprintf("rest of %d by %d", c.a, c.b), r, big.NewInt(c.r))
	}
	q, _, _ := integer.DivMod(integer.Of(math.MinInt64), integer.Of(-1))
	isNumber(t, "the least int64 by -1", q, false, 0, 1<<31)
}

// P203: Exact, with the chapter's example, and what it refuses.
func TestExact(t *testing.T) {
	q, k := integer.Exact(integer.Of(-8), integer.Of(2))
	if k != api.OK {
		t.Fatalf("Exact(-8, 2): kind %d", int(k))
	}
	isNumber(t, "Exact(-8, 2)", q, true, 4)
	q, k = integer.Exact(integer.Of(-7), integer.Of(2))
	isRefused(t, "Exact(-7, 2)", k, api.NotExact, q)
	q, k = integer.Exact(integer.Of(1), integer.Of(-5))
	isRefused(t, "Exact(1, -5)", k, api.NotExact, q)
	for _, nought := range []api.Int{{}, {Neg: true}, {Mag: []uint32{0}}, {Neg: true, Mag: []uint32{0, 0}}} {
		for _, a := range []int64{0, 7, -7} {
			q, k = integer.Exact(integer.Of(a), nought)
			isRefused(t, "Exact by 0", k, api.DivZero, q)
			q, r, k := integer.DivMod(integer.Of(a), nought)
			isRefused(t, "DivMod by 0", k, api.DivZero, q, r)
		}
	}
}

// P203: DivMod and Exact of numbers of all lengths, at multiples and beside them.
func TestDivMod(t *testing.T) {
	for _, p := range append(pairs(12, 2000), pairs(600, 5)...) {
		isDivided(t, p[0], p[1])
	}
	d := dice(203)
	for range 1500 {
		b := d.number(8)
		product := integer.Mul(b, d.number(8))
		isDivided(t, product, b)
		isDivided(t, integer.Add(product, integer.Of(1)), b)
		isDivided(t, integer.Sub(product, integer.Of(1)), b)
	}
}

// isRoot fails the test unless Sqrt answers as the definition says.
func isRoot(t *testing.T, a api.Int) {
	t.Helper()
	root, k := integer.Sqrt(a)
	what := fmt.Sprintf("Sqrt(%v)", wide(a))
	if wide(a).Sign() < 0 {
		isRefused(t, what, k, api.Negative, root)
		return
	}
	want := new(big.Int).Sqrt(wide(a))
	if new(big.Int).Mul(want, want).Cmp(wide(a)) != 0 {
		isRefused(t, what, k, api.NotExact, root)
		return
	}
	if k != api.OK {
		t.Fatalf("%s: kind %d", what, int(k))
	}
	isWide(t, what, root, want)
}

// P204: roots of squares, and of no squares, and of numbers below 0.
func TestSqrt(t *testing.T) {
	for n := int64(-300); n <= 3000; n++ {
		isRoot(t, integer.Of(n))
	}
	isRoot(t, integer.Of(math.MinInt64))
	isRoot(t, integer.Of(math.MaxInt64))
	for _, p := range pairs(40, 200) {
		square := integer.Mul(p[0], p[0])
		isRoot(t, p[1])
		isRoot(t, square)
		isRoot(t, integer.Neg(square))
		isRoot(t, integer.Add(square, integer.Of(1)))
		isRoot(t, integer.Sub(square, integer.Of(1)))
		isRoot(t, api.Int{Mag: append(square.Mag, 0, 0)})
	}
}

// P204: 0 is a square, with Neg on too; one that is below 0 is Negative, be it a square or not but for its sign.
func TestSqrtEdges(t *testing.T) {
	for _, nought := range []api.Int{{}, {Neg: true}, {Mag: []uint32{0}}, {Neg: true, Mag: []uint32{0, 0}}} {
		root, k := integer.Sqrt(nought)
		isRefused(t, "Sqrt of 0", k, api.OK, root)
	}
	for _, n := range []int64{-1, -2, -4, -81} {
		root, k := integer.Sqrt(integer.Of(n))
		isRefused(t, "Sqrt below 0", k, api.Negative, root)
	}
	root, k := integer.Sqrt(integer.Of(2))
	isRefused(t, "Sqrt(2)", k, api.NotExact, root)
}
