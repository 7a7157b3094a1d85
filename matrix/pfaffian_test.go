package matrix_test

import (
	"math"
	"math/big"
	"testing"

	"filigree/api"
	"filigree/matrix"
)

// above is a skew matrix of these numbers above the diagonal, row by row.
func above(n int, list ...int64) [][]api.Int {
	return skewOf(n, func(i, j int) api.Int {
		number := list[0]
		list = list[1:]
		return narrow(big.NewInt(number))
	})
}

// P1603: the chapter's example, and others told by hand.
func TestPfaffianTold(t *testing.T) {
	for _, c := range []struct {
		m    [][]api.Int
		want int64
	}{
		{nil, 1},
		{[][]api.Int{}, 1},
		{of([]int64{0}), 0},
		{of([]int64{0, 3}, []int64{-3, 0}), 3},
		{of([]int64{0, -3}, []int64{3, 0}), 3},
		{above(2, 0), 0},
		{above(2, math.MaxInt64), math.MaxInt64},
		{above(2, -math.MaxInt64), math.MaxInt64},
		{above(3, 1, 2, 3), 0},
		{above(4, 1, 2, 3, 4, 5, 6), 8},
		{above(4, 0, 0, 1, 1, 0, 0), 1},
		{above(4, 0, 1, 0, 0, 1, 0), 1},
		{above(4, 1, 0, 0, 0, 0, 1), 1},
		{above(4, 0, 1, 1, 1, 1, 0), 0},
		{above(4, 0, 1, 1, -1, 1, 0), 2},
		{above(4, 1, 1, 1, 1, 1, 1), 1},
		{above(4, 0, 0, 0, 1, 2, 3), 0},
		{above(5, 1, 2, 3, 4, 5, 6, 7, 8, 9, 10), 0},
		{above(6, 0, 0, 0, 0, 5, 0, 0, 3, 0, 7, 0, 0, 0, 0, 0), 105},
	} {
		isPfaffian(t, "told", c.m, big.NewInt(c.want))
	}
}

// P1603: Pfaffian of all small skew matrices is the sum over all ways to part the rows into pairs, without its sign.
func TestPfaffianSmall(t *testing.T) {
	for _, c := range []struct {
		n           int
		least, most int64
	}{{0, 0, 0}, {1, 0, 0}, {2, -3, 3}, {3, -1, 1}, {4, -2, 2}, {5, 0, 1}, {6, 0, 1}} {
		everyList(c.n*(c.n-1)/2, c.least, c.most, func(list []int64) {
			m := above(c.n, list...)
			isPfaffian(t, "small", m, pfaffianOf(m))
		})
	}
}

// P1603: of drawn skew matrices too, whatever share of their numbers is 0; so it is of numbers that are not normal. Both signs come up.
func TestPfaffianDrawn(t *testing.T) {
	d := dice(1603)
	signs := map[int]int{}
	for range 30 {
		for n := range 9 {
			for _, way := range ways(&d) {
				m := skewOf(n, way)
				want := pfaffianOf(m)
				signs[want.Sign()]++
				isPfaffian(t, "drawn", m, want)
				isPfaffian(t, "not normal", unusual(&d, m), want)
			}
		}
	}
	if signs[-1] < 50 || signs[0] < 50 || signs[1] < 50 {
		t.Errorf("signs: %v", signs)
	}
}

// P1603: of an odd number of rows it is 0, however great the numbers.
func TestPfaffianOfOddNumber(t *testing.T) {
	d := dice(16031)
	for n := 1; n < 30; n += 2 {
		for _, way := range ways(&d) {
			isPfaffian(t, "odd", skewOf(n, way), new(big.Int))
		}
	}
}

// P1603: zeros at the first places, where a step in the given order would divide by one.
func TestPfaffianWithNoughtsAhead(t *testing.T) {
	d := dice(16032)
	for n := 2; n <= 8; n += 2 {
		for ahead := range n + 1 {
			for range 8 {
				draw := short(&d, 0, 9)
				m := skewOf(n, func(i, j int) api.Int {
					if j < ahead {
						return api.Int{}
					}
					return draw(i, j)
				})
				isPfaffian(t, "noughts ahead", m, pfaffianOf(m))
				m = skewOf(n, func(i, j int) api.Int {
					if i == 0 && j < ahead || j == i+1 && j <= ahead {
						return api.Int{}
					}
					return draw(i, j)
				})
				isPfaffian(t, "noughts in the first row", m, pfaffianOf(m))
			}
		}
	}
}

// P1603: greater ones: the square is what fractions tell of the determinant.
func TestPfaffianGreater(t *testing.T) {
	d := dice(16033)
	for _, n := range []int{10, 12, 16, 20, 26} {
		for _, way := range ways(&d) {
			isRoot(t, "greater", skewOf(n, way), detByFractions)
		}
	}
	for _, n := range []int{2, 4, 6} {
		isRoot(t, "great numbers", skewOf(n, long(&d, 0, 300)), detByFractions)
	}
	for _, n := range []int{10, 20, 40} {
		for range 20 {
			few := noughts(n)
			order := d.order(n)
			for at := range n / 2 {
				pair(few, order[2*at], order[2*at+1], d.between(3)*2+1)
			}
			for range d.below(2 * n) {
				pair(few, d.below(n), d.below(n), d.between(9))
			}
			isRoot(t, "few numbers", few, detByFractions)
		}
	}
}

// pair puts a number at a place of a skew matrix, and its negation at the other one, if they are two.
func pair(m [][]api.Int, i, j int, number int64) {
	if i != j {
		m[i][j], m[j][i] = narrow(big.NewInt(number)), narrow(big.NewInt(-number))
	}
}

// isRoot fails the test unless the Pfaffian's square is the determinant that is told.
func isRoot(t *testing.T, what string, m [][]api.Int, told func(m [][]api.Int) *big.Int) {
	t.Helper()
	p, k := matrix.Pfaffian(m)
	isNormal(t, what, p)
	if square := new(big.Int).Mul(wide(p), wide(p)); k != api.OK || p.Neg || square.Cmp(told(m)) != 0 {
		t.Fatalf("%s: Pfaffian(%s): %v, kind %d: no root of %v", what, text(m), wide(p), int(k), told(m))
	}
}
