package natural_test

import (
	"math/big"
	"slices"
	"testing"

	"filigree/natural"
)

const top = 1<<32 - 1 // the greatest limb

// dice throws the same numbers in every run.
type dice uint64

func (d *dice) next() uint64 {
	*d ^= *d << 13
	*d ^= *d >> 7
	*d ^= *d << 17
	return uint64(*d)
}

func (d *dice) below(n int) int { return int(d.next() % uint64(n)) }

// limb prefers limbs at the edges, where carries, borrows and wrong guesses come from.
func (d *dice) limb() uint32 {
	edges := []uint32{0, 0, 1, 2, 1<<31 - 1, 1 << 31, 1<<31 + 1, top - 1, top, top}
	if i := d.below(2 * len(edges)); i < len(edges) {
		return edges[i]
	}
	return uint32(d.next() >> 16)
}

// number has fewer than n limbs, and is often not normal.
func (d *dice) number(n int) []uint32 {
	a := make([]uint32, d.below(n))
	for i := range a {
		a[i] = d.limb()
	}
	if d.below(4) == 0 {
		a = append(a, make([]uint32, d.below(4))...)
	}
	return a
}

// pairs are numbers of all lengths up to n, each with each near in length or far from it.
func pairs(n, count int) [][2][]uint32 {
	d := dice(20261116)
	out := [][2][]uint32{{nil, nil}, {{}, nil}, {nil, {0}}, {{0, 0}, {}}, {{1}, {1, 0, 0}}}
	for i := range count {
		a, b := d.number(2+i%n), d.number(n)
		out = append(out, [2][]uint32{a, b}, [2][]uint32{b, a}, [2][]uint32{a, a})
	}
	return out
}

// wide is a as the library's big number.
func wide(a []uint32) *big.Int {
	n := new(big.Int)
	for _, limb := range slices.Backward(a) {
		n.Lsh(n, 32)
		n.Or(n, big.NewInt(int64(limb)))
	}
	return n
}

// isNormal fails the test if got has noughts at its high end.
func isNormal(t *testing.T, what string, got []uint32) {
	t.Helper()
	if len(got) > 0 && got[len(got)-1] == 0 {
		t.Fatalf("%s: %v is not normal", what, got)
	}
}

// isWide fails the test unless got is normal and of the value want.
func isWide(t *testing.T, what string, got []uint32, want *big.Int) {
	t.Helper()
	isNormal(t, what, got)
	if wide(got).Cmp(want) != 0 {
		t.Fatalf("%s: %v, not %v", what, wide(got), want)
	}
}

// isLimbs fails the test unless got has just these limbs.
func isLimbs(t *testing.T, what string, got []uint32, want ...uint32) {
	t.Helper()
	if !slices.Equal(got, want) {
		t.Errorf("%s: %v, not %v", what, got, want)
	}
}

// parsed is the number of a text that must be one.
func parsed(t *testing.T, s string) []uint32 {
	t.Helper()
	a, k := natural.Parse(s)
	if k != 0 {
		t.Fatalf("Parse(%q): kind %d", s, int(k))
	}
	return a
}
