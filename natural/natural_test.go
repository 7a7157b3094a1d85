package natural_test

import (
	"math/big"
	"slices"
	"testing"

	"filigree/api"
	"filigree/natural"
)

// P101: Of.
func TestOf(t *testing.T) {
	isLimbs(t, "Of(0)", natural.Of(0))
	isLimbs(t, "Of(1)", natural.Of(1), 1)
	isLimbs(t, "Of(2^32-1)", natural.Of(top), top)
	isLimbs(t, "Of(2^32)", natural.Of(1<<32), 0, 1)
	isLimbs(t, "Of(2^64-1)", natural.Of(1<<64-1), top, top)
}

// P101: Norm.
func TestNorm(t *testing.T) {
	isLimbs(t, "Norm(nil)", natural.Norm(nil))
	isLimbs(t, "Norm of no limb", natural.Norm([]uint32{}))
	isLimbs(t, "Norm(0 0)", natural.Norm([]uint32{0, 0}))
	isLimbs(t, "Norm(0 7)", natural.Norm([]uint32{0, 7}), 0, 7)
	isLimbs(t, "Norm(0 7 0 0)", natural.Norm([]uint32{0, 7, 0, 0}), 0, 7)
	for _, p := range pairs(40, 200) {
		isWide(t, "Norm", natural.Norm(p[0]), wide(p[0]))
	}
}

// P101: Cmp.
func TestCmp(t *testing.T) {
	for _, c := range []struct {
		a, b []uint32
		want int
	}{
		{nil, nil, 0},
		{nil, []uint32{0, 0}, 0},
		{[]uint32{}, []uint32{1}, -1},
		{[]uint32{1}, nil, 1},
		{[]uint32{1, 0}, []uint32{1}, 0},
		{[]uint32{1, 0, 0}, []uint32{2}, -1},
		{[]uint32{top}, []uint32{0, 1}, -1},
		{[]uint32{top, 1}, []uint32{0, 2}, -1},
		{[]uint32{2, 5}, []uint32{1, 5}, 1},
		{[]uint32{1 << 31}, []uint32{1<<31 - 1}, 1},
	} {
		if got := natural.Cmp(c.a, c.b); got != c.want {
			t.Errorf("Cmp(%v, %v): %d, not %d", c.a, c.b, got, c.want)
		}
	}
	for _, p := range pairs(6, 3000) {
		if got, want := natural.Cmp(p[0], p[1]), wide(p[0]).Cmp(wide(p[1])); got != want {
			t.Fatalf("Cmp(%v, %v): %d, not %d", p[0], p[1], got, want)
		}
	}
}

// P102: Add.
func TestAdd(t *testing.T) {
	isLimbs(t, "0 + 0", natural.Add(nil, []uint32{0, 0}))
	isLimbs(t, "0 + 5", natural.Add([]uint32{}, []uint32{5, 0}), 5)
	isLimbs(t, "carry", natural.Add([]uint32{top, top, top}, []uint32{1}), 0, 0, 0, 1)
	isLimbs(t, "carry, the other way", natural.Add([]uint32{1}, []uint32{top, top, top}), 0, 0, 0, 1)
	for _, p := range pairs(30, 2000) {
		isWide(t, "Add", natural.Add(p[0], p[1]), new(big.Int).Add(wide(p[0]), wide(p[1])))
	}
}

// P102: Sub, and that a difference below 0 is told as Negative, with nothing beside it.
func TestSub(t *testing.T) {
	isDifference := func(a, b []uint32) {
		t.Helper()
		got, k := natural.Sub(a, b)
		want := new(big.Int).Sub(wide(a), wide(b))
		if want.Sign() < 0 {
			if k != api.Negative || len(got) != 0 {
				t.Fatalf("Sub(%v, %v): %v, kind %d, not Negative", a, b, got, int(k))
			}
			return
		}
		if k != api.OK {
			t.Fatalf("Sub(%v, %v): kind %d", a, b, int(k))
		}
		isWide(t, "Sub", got, want)
	}
	isDifference([]uint32{0, 0, 0, 1}, []uint32{1})
	isDifference([]uint32{5}, []uint32{5, 0, 0, 0})
	isDifference([]uint32{5, 0, 0}, []uint32{6})
	isDifference(nil, []uint32{1})
	isDifference(nil, []uint32{0})
	isDifference([]uint32{0, 0, 1}, []uint32{1, 0, 1})
	for _, p := range pairs(30, 2000) {
		isDifference(p[0], p[1])
	}
}

// P102: Mul, with the chapter's example.
func TestMul(t *testing.T) {
	isLimbs(t, "2^32 * 2^32", natural.Mul(natural.Of(1<<32), natural.Of(1<<32)), 0, 0, 1)
	isLimbs(t, "0 * 7", natural.Mul(nil, []uint32{7, 7}))
	isLimbs(t, "7 * 0", natural.Mul([]uint32{7, 7}, []uint32{0, 0, 0}))
	isLimbs(t, "greatest limbs", natural.Mul([]uint32{top, top}, []uint32{top, top, 0}), 1, 0, top-1, top)
	for _, p := range pairs(30, 2000) {
		isWide(t, "Mul", natural.Mul(p[0], p[1]), new(big.Int).Mul(wide(p[0]), wide(p[1])))
	}
	for _, p := range pairs(1500, 5) {
		isWide(t, "Mul", natural.Mul(p[0], p[1]), new(big.Int).Mul(wide(p[0]), wide(p[1])))
	}
}

// P105: the laws of sums and products.
func TestLaws(t *testing.T) {
	d := dice(105)
	for range 1500 {
		a, b, c := d.number(20), d.number(20), d.number(20)
		same := func(law string, x, y []uint32) {
			t.Helper()
			if !slices.Equal(x, y) {
				t.Fatalf("%s, of %v, %v, %v: %v and %v", law, a, b, c, x, y)
			}
		}
		same("a+b = b+a", natural.Add(a, b), natural.Add(b, a))
		same("(a+b)+c = a+(b+c)", natural.Add(natural.Add(a, b), c), natural.Add(a, natural.Add(b, c)))
		same("ab = ba", natural.Mul(a, b), natural.Mul(b, a))
		same("(ab)c = a(bc)", natural.Mul(natural.Mul(a, b), c), natural.Mul(a, natural.Mul(b, c)))
		same("a(b+c) = ab+ac", natural.Mul(a, natural.Add(b, c)), natural.Add(natural.Mul(a, b), natural.Mul(a, c)))
		q, r, k := natural.DivMod(a, b)
		if k == api.OK {
			same("qb+r = a", natural.Add(natural.Mul(q, b), r), natural.Norm(a))
		}
		back, k := natural.Parse(natural.Text(a))
		if k != api.OK {
			t.Fatalf("Parse of Text of %v: kind %d", a, int(k))
		}
		same("Parse of Text of a = a", back, natural.Norm(a))
	}
}
