package pfaffian_test

import (
	"slices"
	"testing"

	"filigree/api"
	"filigree/matrix"
	"filigree/pfaffian"
)

// isMatrix fails the test unless Matrix answers, at each place, what the words say; it is handed on.
func isMatrix(t *testing.T, what string, g api.Graph, along []bool) [][]api.Int {
	t.Helper()
	m, k := pfaffian.Matrix(g, along)
	if k != api.OK || len(m) != g.N {
		t.Fatalf("%s: Matrix(%v, %v): %d rows, kind %d", what, g, along, len(m), int(k))
	}
	want := map[[2]int]int64{}
	for place, e := range g.E {
		if along[place] {
			want[[2]int{e.U, e.V}], want[[2]int{e.V, e.U}] = 1, -1
		} else {
			want[[2]int{e.U, e.V}], want[[2]int{e.V, e.U}] = -1, 1
		}
	}
	for u, row := range m {
		if len(row) != g.N {
			t.Fatalf("%s: Matrix(%v, %v): row %d: %d numbers", what, g, along, u, len(row))
		}
		for v, number := range row {
			if got := wide(t, number); !got.IsInt64() || got.Int64() != want[[2]int{u, v}] {
				t.Fatalf("%s: Matrix(%v, %v): at %d, %d: %v, not %d", what, g, along, u, v, got, want[[2]int{u, v}])
			}
		}
	}
	if !matrix.Skew(m) {
		t.Fatalf("%s: Matrix(%v, %v): %v: not skew", what, g, along, m)
	}
	return m
}

// P1702: all directions of all graphs of at most 4 vertices, and one of each of 5, planar or not.
func TestMatrixOfAll(t *testing.T) {
	d := dice(1730)
	for n := range 5 {
		smalls(n, func(g api.Graph) {
			for number := range 1 << len(g.E) {
				isMatrix(t, "small", g, truthsOf(len(g.E), number))
			}
		})
	}
	smalls(5, func(g api.Graph) { isMatrix(t, "small", g, d.truths(len(g.E))) })
}

// P1702: directions that are good and such as are not, of graphs of many kinds, also of some that are not planar.
func TestMatrixOfMany(t *testing.T) {
	d := dice(1731)
	for _, s := range samples(12) {
		good, _ := pfaffian.Orient(s.g, s.r)
		isMatrix(t, s.what, s.g, good)
		isMatrix(t, s.what, s.g, d.truths(len(s.g.E)))
	}
	for what, g := range map[string]api.Graph{"K5": all(5), "K9": all(9), "K3,3": of(between(3, 3)), "bagel": of(bagel(4, 5))} {
		for range 20 {
			isMatrix(t, what, g, d.truths(len(g.E)))
		}
		isMatrix(t, what+", all along", g, slices.Repeat([]bool{true}, len(g.E)))
		isMatrix(t, what+", all back", g, make([]bool, len(g.E)))
	}
}

// P1702: weights are nothing to the matrix, whatever they are.
func TestMatrixOfWeights(t *testing.T) {
	d := dice(1732)
	for _, weight := range []int64{0, -1, 7, 1 - api.MaxW, api.MaxW - 1} {
		for _, s := range samples(5) {
			isMatrix(t, s.what, weighed(s.g, func(int) int64 { return weight }), d.truths(len(s.g.E)))
		}
	}
}

// P1702: no row, rows of noughts, and an edge each way.
func TestMatrixTold(t *testing.T) {
	for n := range 4 {
		isMatrix(t, "no edge", api.Graph{N: n}, nil)
		isMatrix(t, "no edge, an empty list", api.Graph{N: n, E: []api.Edge{}}, []bool{})
	}
	edge := edges(3, [3]int64{0, 2, 5})
	m, _ := pfaffian.Matrix(edge, []bool{true})
	if a, b := wide(t, m[0][2]), wide(t, m[2][0]); a.Int64() != 1 || b.Int64() != -1 {
		t.Errorf("along: %v and %v", a, b)
	}
	m, _ = pfaffian.Matrix(edge, []bool{false})
	if a, b := wide(t, m[0][2]), wide(t, m[2][0]); a.Int64() != -1 || b.Int64() != 1 {
		t.Errorf("back: %v and %v", a, b)
	}
}
