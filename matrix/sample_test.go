package matrix_test

import (
	"fmt"
	"math/big"
	"slices"
	"testing"

	"filigree/api"
	"filigree/matrix"
)

const top = 1<<32 - 1 // the greatest limb

// dice throws the same numbers in every run.
type dice uint64

func (d *dice) next() uint64 {
	*d ^= *d << 13
	*d ^= *d >> 7
	*d ^= *d << 17
	return uint64(*d)
}

func (d *dice) below(n int) int { return int(d.next() >> 8 % uint64(n)) }

// between is a number from -far to far.
func (d *dice) between(far int) int64 { return int64(d.below(2*far+1) - far) }

// order is 0 to n - 1 in any order.
func (d *dice) order(n int) []int {
	list := make([]int, n)
	for i := range list {
		j := d.below(i + 1)
		list[i], list[j] = list[j], i
	}
	return list
}

// great is a normal number of some limbs, of either sign and not often 0.
func (d *dice) great(limbs int) api.Int {
	mag := make([]uint32, 1+d.below(limbs))
	for i := range mag {
		mag[i] = []uint32{0, 1, top, uint32(d.next() >> 16)}[d.below(4)]
	}
	return narrow(wide(api.Int{Neg: d.below(2) == 0, Mag: mag}))
}

// wide is a as the library's big number.
func wide(a api.Int) *big.Int {
	n := new(big.Int)
	for _, limb := range slices.Backward(a.Mag) {
		n.Lsh(n, 32)
		n.Or(n, big.NewInt(int64(limb)))
	}
	if a.Neg {
		n.Neg(n)
	}
	return n
}

// narrow is a normal number of the library's big one.
func narrow(n *big.Int) api.Int {
	rest, mask := new(big.Int).Abs(n), big.NewInt(top)
	var mag []uint32
	for rest.Sign() > 0 {
		mag = append(mag, uint32(new(big.Int).And(rest, mask).Uint64()))
		rest.Rsh(rest, 32)
	}
	return api.Int{Neg: n.Sign() < 0, Mag: mag}
}

// of is a matrix of these numbers, made without the package.
func of(rows ...[]int64) [][]api.Int {
	m := make([][]api.Int, len(rows))
	for i, row := range rows {
		m[i] = make([]api.Int, len(row))
		for j, number := range row {
			m[i][j] = narrow(big.NewInt(number))
		}
	}
	return m
}

// made is a matrix of n rows whose numbers are told by their places.
func made(n int, number func(i, j int) api.Int) [][]api.Int {
	m := make([][]api.Int, n)
	for i := range m {
		m[i] = make([]api.Int, n)
		for j := range m[i] {
			m[i][j] = number(i, j)
		}
	}
	return m
}

// noughts is a matrix of n rows of noughts.
func noughts(n int) [][]api.Int {
	return made(n, func(i, j int) api.Int { return api.Int{} })
}

// skewOf is a skew matrix of n rows whose numbers above the diagonal are told by their places.
func skewOf(n int, number func(i, j int) api.Int) [][]api.Int {
	m := noughts(n)
	for i := range m {
		for j := i + 1; j < n; j++ {
			m[i][j] = number(i, j)
			m[j][i] = minus(m[i][j])
		}
	}
	return m
}

// minus is the negation, in memory of its own.
func minus(a api.Int) api.Int { return narrow(new(big.Int).Neg(wide(a))) }

// short is a way to draw numbers: of each share in a hundred noughts, the others from -far to far.
func short(d *dice, noughts, far int) func(i, j int) api.Int {
	return func(i, j int) api.Int {
		if d.below(100) < noughts {
			return api.Int{}
		}
		return narrow(big.NewInt(d.between(far)))
	}
}

// long is a way to draw numbers of many limbs, some of them noughts.
func long(d *dice, noughts, limbs int) func(i, j int) api.Int {
	return func(i, j int) api.Int {
		if d.below(100) < noughts {
			return api.Int{}
		}
		return d.great(limbs)
	}
}

// ways are ways to draw numbers: short and long ones, with few noughts and with many.
func ways(d *dice) []func(i, j int) api.Int {
	return []func(i, j int) api.Int{
		short(d, 0, 1), short(d, 0, 9), short(d, 30, 2), short(d, 60, 5), short(d, 80, 3), short(d, 0, 1<<40),
		long(d, 0, 4), long(d, 50, 3), long(d, 75, 9),
	}
}

// copied is a matrix in memory of its own.
func copied(m [][]api.Int) [][]api.Int {
	twin := make([][]api.Int, len(m))
	for i, row := range m {
		twin[i] = make([]api.Int, len(row))
		for j, a := range row {
			twin[i][j] = api.Int{Neg: a.Neg, Mag: slices.Clone(a.Mag)}
		}
	}
	return twin
}

// unusual is the same numbers, many of them not normal: noughts at their high ends, 0 with its sign on.
func unusual(d *dice, m [][]api.Int) [][]api.Int {
	twin := copied(m)
	for _, row := range twin {
		for j := range row {
			row[j].Mag = append(row[j].Mag, make([]uint32, d.below(4))...)
			if wide(row[j]).Sign() == 0 {
				row[j].Neg = d.below(2) == 0
			}
		}
	}
	return twin
}

// text is the numbers of a matrix.
func text(m [][]api.Int) string {
	var rows []string
	for _, row := range m {
		var numbers []*big.Int
		for _, a := range row {
			numbers = append(numbers, wide(a))
		}
		rows = append(rows, fmt.Sprint(numbers))
	}
	return fmt.Sprint(rows)
}

// isNormal fails the test unless got is normal.
func isNormal(t *testing.T, what string, got api.Int) {
	t.Helper()
	if n := len(got.Mag); n > 0 && got.Mag[n-1] == 0 || n == 0 && got.Neg {
		t.Fatalf("%s: %v is not normal", what, got)
	}
}

// isDet fails the test unless the determinant is want.
func isDet(t *testing.T, what string, m [][]api.Int, want *big.Int) {
	t.Helper()
	got, k := matrix.Det(m)
	isNormal(t, what, got)
	if k != api.OK || wide(got).Cmp(want) != 0 {
		t.Fatalf("%s: Det(%s): %v, kind %d, not %v", what, text(m), wide(got), int(k), want)
	}
}

// isPfaffian fails the test unless the Pfaffian without its sign is want without its own.
func isPfaffian(t *testing.T, what string, m [][]api.Int, want *big.Int) {
	t.Helper()
	got, k := matrix.Pfaffian(m)
	isNormal(t, what, got)
	if k != api.OK || wide(got).Cmp(new(big.Int).Abs(want)) != 0 {
		t.Fatalf("%s: Pfaffian(%s): %v, kind %d, not %v", what, text(m), wide(got), int(k), want)
	}
}

// det is the determinant of what is known to be square.
func det(t *testing.T, m [][]api.Int) *big.Int {
	t.Helper()
	got, k := matrix.Det(m)
	if k != api.OK {
		t.Fatalf("Det of %d rows: kind %d", len(m), int(k))
	}
	return wide(got)
}

// pfaffianWide is the Pfaffian, without its sign, of what is known to be skew.
func pfaffianWide(t *testing.T, m [][]api.Int) *big.Int {
	t.Helper()
	got, k := matrix.Pfaffian(m)
	if k != api.OK || got.Neg {
		t.Fatalf("Pfaffian of %d rows: %v, kind %d", len(m), got, int(k))
	}
	return wide(got)
}
