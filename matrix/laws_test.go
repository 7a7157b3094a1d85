package matrix_test

import (
	"math/big"
	"testing"

	"filigree/api"
)

// samples are square matrices of up to most rows, of all ways to draw numbers.
func samples(d *dice, most int) [][][]api.Int {
	var list [][][]api.Int
	for n := range most + 1 {
		for _, way := range ways(d) {
			list = append(list, made(n, way))
		}
	}
	return list
}

// added is the row, plus the other one times a number.
func added(row, other []api.Int, times *big.Int) []api.Int {
	sum := make([]api.Int, len(row))
	for j := range row {
		product := new(big.Int).Mul(wide(other[j]), times)
		sum[j] = narrow(product.Add(product, wide(row[j])))
	}
	return sum
}

// turned is rows as columns.
func turned(m [][]api.Int) [][]api.Int {
	return made(len(m), func(i, j int) api.Int { return m[j][i] })
}

// product is the product of two matrices.
func product(a, b [][]api.Int) [][]api.Int {
	return made(len(a), func(i, j int) api.Int {
		sum := new(big.Int)
		for k := range a {
			sum.Add(sum, new(big.Int).Mul(wide(a[i][k]), wide(b[k][j])))
		}
		return narrow(sum)
	})
}

// P1604: two rows changed turn the determinant's sign; two columns too.
func TestRowsChanged(t *testing.T) {
	d := dice(1604)
	for _, m := range samples(&d, 14) {
		if len(m) < 2 {
			continue
		}
		want := det(t, m)
		want.Neg(want)
		order := d.order(len(m))
		i, j := order[0], order[1]
		other := copied(m)
		other[i], other[j] = other[j], other[i]
		isDet(t, "two rows changed", other, want)
		other = copied(m)
		for _, row := range other {
			row[i], row[j] = row[j], row[i]
		}
		isDet(t, "two columns changed", other, want)
	}
}

// P1604: rows in any order have the determinant with the order's sign.
func TestRowsInAnyOrder(t *testing.T) {
	d := dice(16041)
	for _, m := range samples(&d, 14) {
		order := d.order(len(m))
		other := make([][]api.Int, len(m))
		for i, at := range order {
			other[i] = m[at]
		}
		isDet(t, "rows in another order", other, new(big.Int).Mul(det(t, m), big.NewInt(signOf(order))))
	}
}

// P1604: a row added to another one any number of times changes nothing; a row times a number is the determinant times it.
func TestRowAdded(t *testing.T) {
	d := dice(16042)
	for _, m := range samples(&d, 14) {
		if len(m) < 2 {
			continue
		}
		want := det(t, m)
		order := d.order(len(m))
		i, j := order[0], order[1]
		for _, times := range []*big.Int{big.NewInt(1), big.NewInt(-3), wide(d.great(3))} {
			other := copied(m)
			other[i] = added(m[i], m[j], times)
			isDet(t, "a row added", other, want)
			other[i] = added(make([]api.Int, len(m)), m[i], times)
			isDet(t, "a row times a number", other, new(big.Int).Mul(want, times))
		}
	}
}

// P1604: a row that is a multiple of another one makes it 0, as do equal rows, a row of noughts, a sum of two rows, and a column of noughts.
func TestRowOfOthers(t *testing.T) {
	d := dice(16043)
	nought := new(big.Int)
	for _, m := range samples(&d, 14) {
		n := len(m)
		if n < 2 {
			continue
		}
		order := d.order(n)
		i, j := order[0], order[1]
		zero := make([]api.Int, n)
		for _, times := range []int64{1, -1, 2, -7, 1 << 40, 0} {
			other := copied(m)
			other[i] = added(zero, m[j], big.NewInt(times))
			isDet(t, "a multiple", other, nought)
		}
		other := copied(m)
		for _, row := range other {
			row[i] = api.Int{}
		}
		isDet(t, "a column of noughts", other, nought)
		for _, row := range other {
			row[i] = narrow(new(big.Int).Mul(wide(row[j]), big.NewInt(-5)))
		}
		isDet(t, "a column that is a multiple", other, nought)
		if n > 2 {
			other = copied(m)
			other[i] = added(added(zero, m[j], big.NewInt(3)), m[order[2]], big.NewInt(-2))
			isDet(t, "a row of two others", other, nought)
		}
	}
}

// P1604: all rows equal, or multiples of one, or of two.
func TestFewRows(t *testing.T) {
	d := dice(16044)
	for n := 2; n < 30; n += 3 {
		a, b := made(n, long(&d, 10, 3))[0], made(n, long(&d, 10, 3))[0]
		zero := make([]api.Int, n)
		equal, multiples, two := make([][]api.Int, n), make([][]api.Int, n), make([][]api.Int, n)
		for i := range n {
			equal[i] = a
			multiples[i] = added(zero, a, big.NewInt(d.between(50)))
			two[i] = added(multiples[i], b, big.NewInt(d.between(50)))
		}
		isDet(t, "equal rows", equal, new(big.Int))
		isDet(t, "multiples", multiples, new(big.Int))
		if n > 2 {
			isDet(t, "sums of two", two, new(big.Int))
		}
	}
}

// P1602: rows as columns have the same determinant; a product of two has the product.
func TestTurnedAndProduct(t *testing.T) {
	d := dice(16045)
	for n := range 13 {
		for _, way := range ways(&d) {
			a, b := made(n, way), made(n, way)
			isDet(t, "rows as columns", turned(a), det(t, a))
			isDet(t, "a product", product(a, b), new(big.Int).Mul(det(t, a), det(t, b)))
		}
	}
}

// P1604: a Pfaffian's square is the determinant, of no row and of an odd number of rows too.
func TestSquareOfPfaffian(t *testing.T) {
	d := dice(16046)
	for n := range 21 {
		for range 3 {
			for _, way := range ways(&d) {
				isRoot(t, "skew", skewOf(n, way), func(m [][]api.Int) *big.Int { return det(t, m) })
			}
		}
	}
}

// P1603: rows and columns in any order, or signs turned, leave the Pfaffian without its sign; a skew matrix between b and b turned has it times b's determinant.
func TestPfaffianOfOthers(t *testing.T) {
	d := dice(16047)
	for n := range 13 {
		for _, way := range ways(&d) {
			m := skewOf(n, way)
			want := pfaffianWide(t, m)
			order := d.order(n)
			isPfaffian(t, "in another order", made(n, func(i, j int) api.Int { return m[order[i]][order[j]] }), want)
			isPfaffian(t, "rows as columns", turned(m), want)
			b := made(n, way)
			isPfaffian(t, "between", product(product(b, m), turned(b)), new(big.Int).Mul(want, det(t, b)))
		}
	}
}

// P1603, P1602: two matrices that stand beside one another, with noughts else, have the product.
func TestBeside(t *testing.T) {
	d := dice(16048)
	for range 100 {
		all := ways(&d)
		a, b := skewOf(2*d.below(5), all[d.below(len(all))]), skewOf(2*d.below(5), all[d.below(len(all))])
		whole := made(len(a)+len(b), func(i, j int) api.Int {
			switch n := len(a); {
			case i < n && j < n:
				return a[i][j]
			case i >= n && j >= n:
				return b[i-n][j-n]
			}
			return api.Int{}
		})
		isPfaffian(t, "beside", whole, new(big.Int).Mul(pfaffianWide(t, a), pfaffianWide(t, b)))
		isDet(t, "beside", whole, new(big.Int).Mul(det(t, a), det(t, b)))
	}
}
