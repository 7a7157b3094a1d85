package integer_test

import (
	"math/big"
	"slices"
	"testing"

	"filigree/api"
	"filigree/integer"
)

const top = 1<<32 - 1 // the greatest limb

// dice throws the same numbers in every run.
type dice uint64

func (d *dice) next() uint64 {
	*d ^= *d << 13
	*d ^= *d >> 7
	*d ^= *d << 17
	return uint64(*d)
}

func (d *dice) below(n int) int { return int(d.next() % uint64(n)) }

// limb prefers limbs at the edges, where carries and borrows come from.
func (d *dice) limb() uint32 {
	edges := []uint32{0, 0, 1, 2, 1<<31 - 1, 1 << 31, top - 1, top}
	if i := d.below(2 * len(edges)); i < len(edges) {
		return edges[i]
	}
	return uint32(d.next() >> 16)
}

// number has fewer than n limbs and either sign, and is often not normal.
func (d *dice) number(n int) api.Int {
	mag := make([]uint32, d.below(n))
	for i := range mag {
		mag[i] = d.limb()
	}
	if d.below(4) == 0 {
		mag = append(mag, make([]uint32, d.below(4))...)
	}
	return api.Int{Neg: d.below(2) == 0, Mag: mag}
}

// edges are 0 in all its forms, and small numbers of each sign, normal or not.
func edges() []api.Int {
	var all []api.Int
	for _, mag := range [][]uint32{nil, {}, {0}, {0, 0}, {1}, {1, 0}, {2}, {7}, {7, 0, 0}, {8}, {top}, {0, 1}, {0, 1, 0}, {0, 1 << 31}, {1, 1 << 31}} {
		all = append(all, api.Int{Mag: mag}, api.Int{Neg: true, Mag: mag})
	}
	return all
}

// pairs are the edges, each with each, and numbers of all lengths up to n limbs, far from each other, near or alike but for the sign.
func pairs(n, count int) [][2]api.Int {
	var out [][2]api.Int
	for _, a := range edges() {
		for _, b := range edges() {
			out = append(out, [2]api.Int{a, b})
		}
	}
	d := dice(20261116)
	for i := range count {
		a, b := d.number(2+i%n), d.number(n)
		opposite := api.Int{Neg: !a.Neg, Mag: a.Mag}
		out = append(out, [2]api.Int{a, b}, [2]api.Int{b, a}, [2]api.Int{a, a}, [2]api.Int{a, opposite})
	}
	return out
}

// wide is a as the library's big number.
func wide(a api.Int) *big.Int {
	n := new(big.Int)
	for _, limb := range slices.Backward(a.Mag) {
		n.Lsh(n, 32)
		n.Or(n, big.NewInt(int64(limb)))
	}
	if a.Neg {
		n.Neg(n)
	}
	return n
}

// isWide fails the test unless got is normal and of the value want.
func isWide(t *testing.T, what string, got api.Int, want *big.Int) {
	t.Helper()
	if n := len(got.Mag); n > 0 && got.Mag[n-1] == 0 || n == 0 && got.Neg {
		t.Fatalf("%s: %v is not normal", what, got)
	}
	if wide(got).Cmp(want) != 0 {
		t.Fatalf("%s: %v, not %v", what, wide(got), want)
	}
}

// isNumber fails the test unless got has just this sign and these limbs.
func isNumber(t *testing.T, what string, got api.Int, neg bool, mag ...uint32) {
	t.Helper()
	if got.Neg != neg || !slices.Equal(got.Mag, mag) {
		t.Errorf("%s: %v, not %v %v", what, got, neg, mag)
	}
}

// isRefused fails the test unless the kind is want, and each number beside it zero.
func isRefused(t *testing.T, what string, k, want api.Kind, beside ...api.Int) {
	t.Helper()
	if k != want {
		t.Fatalf("%s: kind %d, not %d", what, int(k), int(want))
	}
	for _, a := range beside {
		if a.Neg || len(a.Mag) != 0 {
			t.Fatalf("%s: %v beside kind %d", what, a, int(k))
		}
	}
}

// parsed is the number of a text that must be one.
func parsed(t *testing.T, s string) api.Int {
	t.Helper()
	a, k := integer.Parse(s)
	if k != api.OK {
		t.Fatalf("Parse(%q): kind %d", s, int(k))
	}
	return a
}
