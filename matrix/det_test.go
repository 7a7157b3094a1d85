package matrix_test

import (
	"fmt"
	"math"
	"math/big"
	"testing"

	"filigree/api"
	"filigree/matrix"
)

// P1602: the chapter's example, and others told by hand.
func TestDetTold(t *testing.T) {
	for _, c := range []struct {
		m    [][]api.Int
		want int64
	}{
		{nil, 1},
		{[][]api.Int{}, 1},
		{of([]int64{0}), 0},
		{of([]int64{5}), 5},
		{of([]int64{-5}), -5},
		{of([]int64{math.MinInt64}), math.MinInt64},
		{of([]int64{math.MaxInt64}), math.MaxInt64},
		{of([]int64{1, 2}, []int64{3, 4}), -2},
		{of([]int64{0, 1}, []int64{1, 0}), -1},
		{of([]int64{0, 2}, []int64{3, 4}), -6},
		{of([]int64{2, 0}, []int64{0, 3}), 6},
		{of([]int64{0, 0}, []int64{1, 2}), 0},
		{of([]int64{0, 1}, []int64{0, 2}), 0},
		{of([]int64{1 << 32, 1}, []int64{1, 0}), -1},
		{of([]int64{0, 1, 0}, []int64{0, 0, 1}, []int64{1, 0, 0}), 1},
		{of([]int64{0, 1, 0}, []int64{1, 0, 0}, []int64{0, 0, 1}), -1},
		{of([]int64{0, 0, 1}, []int64{0, 1, 0}, []int64{1, 0, 0}), -1},
		{of([]int64{1, 2, 3}, []int64{4, 5, 6}, []int64{7, 8, 9}), 0},
		{of([]int64{1, 2, 3}, []int64{4, 5, 6}, []int64{7, 8, 10}), -3},
		{of([]int64{2, -1, 0, 0}, []int64{-1, 2, -1, 0}, []int64{0, -1, 2, -1}, []int64{0, 0, -1, 2}), 5},
		{of([]int64{0, 0, 0, 2}, []int64{0, 0, 3, 9}, []int64{0, 5, 9, 9}, []int64{7, 9, 9, 9}), 210},
		{of([]int64{1, 1, 1, 1}, []int64{1, -1, 1, -1}, []int64{1, 1, -1, -1}, []int64{1, -1, -1, 1}), 16},
	} {
		isDet(t, "told", c.m, big.NewInt(c.want))
	}
	if d, k := matrix.Det(of([]int64{1 << 40, 0, 0}, []int64{0, 1 << 40, 0}, []int64{0, 0, 1 << 40})); k != api.OK || fmt.Sprint(d) != "{false [0 0 0 16777216]}" {
		t.Errorf("three of 2^40: %v", d)
	}
}

// everyList tells each list of that length of numbers from least to most.
func everyList(length int, least, most int64, tell func(list []int64)) {
	list := make([]int64, length)
	for at := range list {
		list[at] = least
	}
	for {
		tell(list)
		at := 0
		for at < length && list[at] == most {
			list[at] = least
			at++
		}
		if at == length {
			return
		}
		list[at]++
	}
}

// P1602: Det of all small matrices is the sum over all orders.
func TestDetSmall(t *testing.T) {
	for _, c := range []struct {
		n           int
		least, most int64
	}{{0, 0, 0}, {1, -3, 3}, {2, -3, 3}, {3, -1, 1}, {4, 0, 1}} {
		everyList(c.n*c.n, c.least, c.most, func(list []int64) {
			m := make([][]int64, c.n)
			for i := range m {
				m[i] = list[i*c.n : (i+1)*c.n]
			}
			whole := of(m...)
			isDet(t, "small", whole, detOf(whole))
		})
	}
}

// P1602: Det of drawn matrices is the sum over all orders, whatever share of their numbers is 0; so it is of numbers that are not normal.
func TestDetDrawn(t *testing.T) {
	d := dice(1602)
	for range 30 {
		for n := range 8 {
			if n == 7 && d.below(8) > 0 {
				continue
			}
			for _, way := range ways(&d) {
				m := made(n, way)
				want := detOf(m)
				isDet(t, "drawn", m, want)
				isDet(t, "not normal", unusual(&d, m), want)
			}
		}
	}
}

// P1602: Det of greater matrices, with great numbers too, is what fractions tell.
func TestDetGreater(t *testing.T) {
	d := dice(16021)
	for _, n := range []int{8, 9, 12, 16, 20, 25} {
		for _, way := range ways(&d) {
			m := made(n, way)
			isDet(t, "greater", m, detByFractions(m))
		}
	}
	for _, n := range []int{2, 3, 5} {
		m := made(n, long(&d, 0, 300))
		isDet(t, "great numbers", m, detByFractions(m))
	}
}

// P1602: of few numbers a row, the determinant is what fractions tell: most steps leave most rows as they are.
func TestDetOfFewNumbers(t *testing.T) {
	d := dice(16022)
	for _, n := range []int{10, 20, 40} {
		for range 20 {
			m := noughts(n)
			for i, j := range d.order(n) {
				m[i][j] = narrow(big.NewInt(d.between(3)*2 + 1))
			}
			for range d.below(2 * n) {
				m[d.below(n)][d.below(n)] = narrow(big.NewInt(d.between(9)))
			}
			isDet(t, "few numbers", m, detByFractions(m))
		}
	}
}

// P1602: matrices of one number a row and column: its product, with the sign of the order.
func TestDetOfOrders(t *testing.T) {
	d := dice(16023)
	for n := range 7 {
		everyOrder(n, func(order []int, sign int64) {
			m := noughts(n)
			product := big.NewInt(sign)
			for i, j := range order {
				m[i][j] = d.great(2)
				product.Mul(product, wide(m[i][j]))
			}
			isDet(t, "an order", m, product)
		})
	}
}

// P1602: zeros where a step in the given order would divide by one: at the first places, and at those that come up only by steps.
func TestDetWithNoughtsAhead(t *testing.T) {
	d := dice(16024)
	for n := 2; n < 7; n++ {
		for ahead := range n + 1 {
			for range 10 {
				m := made(n, short(&d, 0, 9))
				for i := range ahead {
					for j := range ahead {
						if i+j < ahead {
							m[i][j] = api.Int{Neg: d.below(2) == 0, Mag: make([]uint32, d.below(3))}
						}
					}
				}
				isDet(t, "noughts ahead", m, detOf(m))
			}
		}
	}
	for n := 2; n < 7; n++ {
		for range 30 { // the first rows are alike in their first columns: a step makes noughts there
			m := made(n, short(&d, 0, 5))
			for j := range n - 1 {
				m[1][j] = narrow(wide(m[0][j]))
			}
			isDet(t, "noughts by a step", m, detOf(m))
		}
	}
}

// P1602: triangles: the product of the diagonal, however their rows stand.
func TestDetOfTriangles(t *testing.T) {
	d := dice(16025)
	for _, n := range []int{1, 2, 5, 30} {
		for range 5 {
			order := d.order(n)
			product := big.NewInt(signOf(order))
			m := make([][]api.Int, n)
			for i, at := range order {
				m[i] = make([]api.Int, n)
				for j := at; j < n; j++ {
					m[i][j] = d.great(2)
				}
				product.Mul(product, wide(m[i][at]))
			}
			isDet(t, "a triangle", m, product)
		}
	}
}

// P1602: of numbers x to their places' powers it is the product of all differences.
func TestDetOfPowers(t *testing.T) {
	for _, n := range []int{2, 5, 10, 20} {
		xs := make([]*big.Int, n)
		for i := range xs {
			xs[i] = big.NewInt(int64(i*i - 7*i + 3*(i%3)*n*n))
		}
		m := made(n, func(i, j int) api.Int { return narrow(new(big.Int).Exp(xs[i], big.NewInt(int64(j)), nil)) })
		product := big.NewInt(1)
		for j := range n {
			for i := range j {
				product.Mul(product, new(big.Int).Sub(xs[j], xs[i]))
			}
		}
		isDet(t, "powers", m, product)
	}
}
