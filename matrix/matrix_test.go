package matrix_test

import (
	"fmt"
	"math"
	"math/big"
	"testing"

	"filigree/api"
	"filigree/matrix"
)

// P1601: Of of rows of any lengths, and of the numbers at the edges.
func TestOf(t *testing.T) {
	for _, l := range [][][]int64{
		nil, {}, {nil}, {{}}, {{}, {}}, {{0}}, {{1}}, {{-1}}, {{1, 2}, {3, 4}}, {{1, 2, 3}, {}, {4}, nil, {5, 6}},
		{{math.MinInt64, math.MaxInt64}, {math.MinInt64 + 1, math.MaxInt64 - 1, 0}},
		{{1<<32 - 1, 1 << 32, 1<<32 + 1, -1<<32 + 1, -1 << 32, -1<<32 - 1, 1 << 31, -1 << 31}},
	} {
		m := matrix.Of(l)
		if len(m) != len(l) {
			t.Fatalf("Of(%v): %d rows", l, len(m))
		}
		for i, row := range l {
			if len(m[i]) != len(row) {
				t.Fatalf("Of(%v): %d numbers in row %d", l, len(m[i]), i)
			}
			for j, number := range row {
				isNormal(t, "Of", m[i][j])
				if wide(m[i][j]).Cmp(big.NewInt(number)) != 0 {
					t.Fatalf("Of(%v): %v, not %d", l, m[i][j], number)
				}
			}
		}
	}
	least := matrix.Of([][]int64{{math.MinInt64}})[0][0]
	if fmt.Sprint(least) != "{true [0 2147483648]}" {
		t.Errorf("Of the least: %v", least)
	}
}

// P1601: Of of drawn numbers.
func TestOfDrawn(t *testing.T) {
	d := dice(16011)
	for range 300 {
		l := make([][]int64, d.below(6))
		for i := range l {
			l[i] = make([]int64, d.below(6))
			for j := range l[i] {
				l[i][j] = int64(d.next() << d.below(8) >> d.below(64))
			}
		}
		if got, want := fmt.Sprint(matrix.Of(l)), fmt.Sprint(of(l...)); got != want {
			t.Fatalf("Of(%v): %s, not %s", l, got, want)
		}
	}
}

// rowsOf is a matrix of rows of these lengths.
func rowsOf(lengths ...int) [][]api.Int {
	m := make([][]api.Int, len(lengths))
	for i, length := range lengths {
		m[i] = make([]api.Int, length)
	}
	return m
}

// P1601: Square of each list of up to five rows of up to five numbers.
func TestSquareSmall(t *testing.T) {
	var every func(lengths []int)
	every = func(lengths []int) {
		want := true
		for _, length := range lengths {
			want = want && length == len(lengths)
		}
		m := rowsOf(lengths...)
		if got := matrix.Square(m); got != want {
			t.Fatalf("Square of rows of %v: %v", lengths, got)
		}
		if got := matrix.Skew(m); got != want { // all its numbers are 0
			t.Fatalf("Skew of rows of %v: %v", lengths, got)
		}
		for length := range 6 {
			if len(lengths) < 5 {
				every(append(lengths[:len(lengths):len(lengths)], length))
			}
		}
	}
	every(nil)
}

// P1601: Square of what is, and of what just isn't.
func TestSquare(t *testing.T) {
	for _, n := range []int{1, 2, 3, 7, 40} {
		lengths := make([]int, n)
		for i := range lengths {
			lengths[i] = n
		}
		if !matrix.Square(rowsOf(lengths...)) {
			t.Fatalf("%d rows: not square", n)
		}
		for i := range lengths {
			for _, length := range []int{0, n - 1, n + 1, 2 * n} {
				lengths[i] = length
				if matrix.Square(rowsOf(lengths...)) {
					t.Fatalf("%v: square", lengths)
				}
			}
			lengths[i] = n
		}
		if matrix.Square(rowsOf(append(lengths, n)...)) || n > 1 && matrix.Square(rowsOf(lengths[1:]...)) {
			t.Fatalf("%d: a row too many, or too few: square", n)
		}
	}
	for _, m := range [][][]api.Int{nil, {}} {
		if !matrix.Square(m) || !matrix.Skew(m) {
			t.Errorf("no row: not square, or not skew")
		}
	}
	for _, m := range [][][]api.Int{{nil}, {{}}, {nil, nil}, {{}, {}}} {
		if matrix.Square(m) || matrix.Skew(m) {
			t.Errorf("rows of no number: square, or skew")
		}
	}
}

// P1601: Skew of small matrices, told by hand.
func TestSkewTold(t *testing.T) {
	for _, c := range []struct {
		m    [][]api.Int
		want bool
	}{
		{of([]int64{0}), true},
		{of([]int64{1}), false},
		{of([]int64{-1}), false},
		{of([]int64{0, 3}, []int64{-3, 0}), true},
		{of([]int64{0, -3}, []int64{3, 0}), true},
		{of([]int64{0, 3}, []int64{3, 0}), false},
		{of([]int64{0, 3}, []int64{-4, 0}), false},
		{of([]int64{0, 3}, []int64{0, 0}), false},
		{of([]int64{0, 0}, []int64{3, 0}), false},
		{of([]int64{1, 3}, []int64{-3, 0}), false},
		{of([]int64{0, 3}, []int64{-3, 1}), false},
		{of([]int64{1, 3}, []int64{-3, -1}), false},
		{of([]int64{0, 1 << 32}, []int64{-1 << 32, 0}), true},
		{of([]int64{0, 1 << 32}, []int64{-1, 0}), false},
		{of([]int64{0, math.MaxInt64}, []int64{math.MinInt64, 0}), false},
		{of([]int64{0, math.MaxInt64}, []int64{-math.MaxInt64, 0}), true},
		{of([]int64{0, 1, 2}, []int64{-1, 0, 3}, []int64{-2, -3, 0}), true},
		{of([]int64{0, 1, 2}, []int64{-1, 0, 3}, []int64{-2, 3, 0}), false},
		{of([]int64{0, 1, 2}, []int64{-1, 0, 3}, []int64{2, -3, 0}), false},
		{of([]int64{0, 1, 2}, []int64{-1, 0, 3}), false},
		{of([]int64{0, 1}, []int64{-1, 0}, []int64{0, 0}), false},
		{of([]int64{0, 1, 0}, []int64{-1, 0, 0}), false},
		{of([]int64{0, 1}, []int64{-1, 0, 0}), false},
		{of([]int64{0, 1}, []int64{-1}), false},
		{of([]int64{0, 0}), false},
	} {
		if got := matrix.Skew(c.m); got != c.want {
			t.Errorf("Skew(%s): %v", text(c.m), got)
		}
	}
}

// P1601: Skew of drawn matrices, and of the same ones with one number changed.
func TestSkew(t *testing.T) {
	d := dice(16012)
	for n := 1; n < 9; n++ {
		for _, way := range ways(&d) {
			m := skewOf(n, way)
			if !matrix.Skew(m) || !matrix.Skew(unusual(&d, m)) {
				t.Fatalf("Skew(%s): false", text(m))
			}
			for i := range m {
				for j := range m {
					whole := m[i][j]
					for _, other := range []*big.Int{new(big.Int).Add(wide(whole), big.NewInt(1)), new(big.Int).Add(wide(whole), new(big.Int).Lsh(big.NewInt(-1), 32)), new(big.Int).Neg(wide(whole))} {
						m[i][j] = narrow(other)
						if matrix.Skew(m) != (other.Cmp(wide(whole)) == 0) {
							t.Fatalf("Skew(%s): %v", text(m), matrix.Skew(m))
						}
					}
					m[i][j] = whole
				}
			}
		}
	}
}

// P1601, Words of the chapter 2: 0 in all its forms is the negation of 0 in all its forms.
func TestSkewOfNoughts(t *testing.T) {
	forms := []api.Int{{}, {Neg: true}, {Mag: []uint32{}}, {Mag: []uint32{0}}, {Neg: true, Mag: []uint32{0, 0}}}
	for _, a := range forms {
		for _, b := range forms {
			m := [][]api.Int{{a, b}, {b, a}}
			if !matrix.Skew(m) {
				t.Errorf("Skew(%v): false", m)
			}
			isDet(t, "noughts", m, new(big.Int))
			isPfaffian(t, "noughts", m, new(big.Int))
			m = [][]api.Int{{a, {Mag: []uint32{7, 0}}}, {{Neg: true, Mag: []uint32{7, 0, 0}}, b}}
			if !matrix.Skew(m) {
				t.Errorf("Skew(%v): false", m)
			}
			isPfaffian(t, "noughts at the diagonal", m, big.NewInt(7))
		}
	}
}
