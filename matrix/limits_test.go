package matrix_test

import (
	"math/big"
	"testing"

	"filigree/api"
)

// board is a skew matrix of a board's squares, of that many rows and columns: neighbours in a row have 1; in a column, 1 and -1 by turns.
// Its Pfaffian is how many ways there are to cover the board by pairs of neighbours.
func board(rows, columns int) [][]api.Int {
	m := noughts(rows * columns)
	for y := range rows {
		for x := range columns {
			at := y*columns + x
			if x+1 < columns {
				pair(m, at, at+1, 1)
			}
			if y+1 < rows {
				pair(m, at, at+columns, int64(1-x%2*2))
			}
		}
	}
	return m
}

// fibonacci is how many ways there are to cover a board of two rows.
func fibonacci(columns int) *big.Int {
	a, b := big.NewInt(1), big.NewInt(1)
	for range columns {
		a.Add(a, b)
		a, b = b, a
	}
	return a
}

// P1603: boards whose ways to be covered are known.
func TestPfaffianOfBoards(t *testing.T) {
	for _, c := range []struct {
		rows, columns int
		want          string
	}{
		{1, 1, "0"}, {1, 2, "1"}, {2, 2, "2"}, {2, 3, "3"}, {3, 3, "0"}, {3, 4, "11"}, {4, 4, "36"}, {2, 10, "89"}, {5, 6, "1183"}, {6, 6, "6728"},
		{8, 8, "12988816"}, {7, 8, "1292697"}, {9, 9, "0"}, {10, 10, "258584046368"}, {12, 12, "53060477521960000"}, {16, 16, "2444888770250892795802079170816"},
	} {
		want, _ := new(big.Int).SetString(c.want, 10)
		m := board(c.rows, c.columns)
		isPfaffian(t, "a board", m, want)
		isDet(t, "a board", m, new(big.Int).Mul(want, want))
	}
	for columns := range 60 {
		isPfaffian(t, "two rows", board(2, columns), fibonacci(columns))
	}
}

// covered is how many ways there are to cover a board, told square by square: of each set of squares ahead that are covered already.
func covered(rows, columns int) *big.Int {
	ways := make([]*big.Int, 1<<rows)
	for set := range ways {
		ways[set] = new(big.Int)
	}
	ways[0].SetInt64(1)
	for at := range rows * columns {
		y := at % rows
		next := make([]*big.Int, len(ways))
		for set := range next {
			next[set] = new(big.Int)
		}
		for set, count := range ways {
			if set>>y&1 == 1 {
				next[set&^(1<<y)].Add(next[set&^(1<<y)], count)
				continue
			}
			next[set|1<<y].Add(next[set|1<<y], count)
			if y+1 < rows && set>>(y+1)&1 == 0 {
				next[set|1<<(y+1)].Add(next[set|1<<(y+1)], count)
			}
		}
		ways = next
	}
	return ways[0]
}

// P1603: boards of all sizes, and long ones.
func TestPfaffianOfAllBoards(t *testing.T) {
	for rows := 1; rows < 10; rows++ {
		for columns := range 10 {
			isPfaffian(t, "a board", board(rows, columns), covered(rows, columns))
		}
	}
	isSame(t, "a long board", pfaffianWide(t, board(10, 90)), covered(10, 90))
	isSame(t, "a long board of no way", pfaffianWide(t, board(9, 81)), new(big.Int))
}

// P1602, P1603: as many rows as there are vertices whose matchings are counted, with few numbers each.
func TestManyRows(t *testing.T) {
	const n = api.MaxCount
	m := board(2, n/2)
	isSame(t, "two rows", pfaffianWide(t, m), fibonacci(n/2))
	m[n-1] = make([]api.Int, n)
	isSame(t, "two rows, one of noughts", det(t, m), new(big.Int))
	isSame(t, "one row", pfaffianWide(t, board(1, n)), big.NewInt(1))
	isSame(t, "no number", pfaffianWide(t, noughts(n)), new(big.Int))
	round := noughts(n)
	for i := range n {
		round[i][(i+1)%n] = narrow(big.NewInt(-1))
	}
	isSame(t, "a round", det(t, round), big.NewInt(-1)) // of an even number of rows: its order is odd
}

// P1603: a great board is covered in 2^32 times the square of an odd number of ways, as is known of boards of 64 rows and columns.
func TestPfaffianOfGreatBoard(t *testing.T) {
	ways := pfaffianWide(t, board(64, 64))
	if ways.BitLen() != 1696 || ways.TrailingZeroBits() != 32 {
		t.Fatalf("%v: %d bits, %d of them noughts", ways, ways.BitLen(), ways.TrailingZeroBits())
	}
	odd := new(big.Int).Rsh(ways, 32)
	root := new(big.Int).Sqrt(odd)
	isSame(t, "a square", new(big.Int).Mul(root, root), odd)
}

// isSame fails the test unless the two are one number; it does not tell the matrix, which is too great.
func isSame(t *testing.T, what string, got, want *big.Int) {
	t.Helper()
	if got.Cmp(want) != 0 {
		t.Fatalf("%s: %v, not %v", what, got, want)
	}
}
