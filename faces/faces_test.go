package faces_test

import (
	"fmt"
	"testing"

	"filigree/api"
	"filigree/faces"
)

// isText fails the test unless both have the same text.
func isText(t *testing.T, what string, got, want any) {
	t.Helper()
	if a, b := fmt.Sprint(got), fmt.Sprint(want); a != b {
		t.Errorf("%s: %s, not %s", what, a, b)
	}
}

// The chapter's example: a triangle has two faces, three edges between them.
func TestTriangle(t *testing.T) {
	dual, k := faces.Dual(of(ring(3)), ring(3))
	if k != api.OK || dual.N != 2 || len(dual.E) != 3 {
		t.Fatalf("Dual: %v, kind %d", dual, int(k))
	}
	for _, e := range dual.E {
		if min(e.U, e.V) != 0 || max(e.U, e.V) != 1 {
			t.Errorf("Dual: edge %v", e)
		}
	}
}

// P1001, P1002: what is told of graphs whose faces are told by hand. Edges weigh 1, 2 and so on, as the lists come to them first.
func TestTold(t *testing.T) {
	for _, c := range []struct {
		what    string
		r       [][]int
		sides   string
		lengths string
		dual    string
	}{
		{"no vertex", nil, "[]", "[]", "{0 []}"},
		{"no vertex, an empty list", [][]int{}, "[]", "[]", "{0 []}"},
		{"a vertex alone", [][]int{{}}, "[]", "[]", "{0 []}"},
		{"no edge", [][]int{nil, {}, nil}, "[]", "[]", "{0 []}"},
		{"an edge", [][]int{{1}, {0}}, "[[0 0]]", "[2]", "{1 [{0 0 1}]}"},
		{"a vertex alone, then an edge", [][]int{{}, {2}, {1}}, "[[0 0]]", "[2]", "{1 [{0 0 1}]}"},
		{"an edge, then a vertex alone", [][]int{{1}, {0}, {}}, "[[0 0]]", "[2]", "{1 [{0 0 1}]}"},
		{"two edges apart", [][]int{{2}, {3}, {0}, {1}}, "[[0 0] [1 1]]", "[2 2]", "{2 [{0 0 1} {1 1 2}]}"},
		{"a way", [][]int{{1}, {0, 2}, {1}}, "[[0 0] [0 0]]", "[4]", "{1 [{0 0 1} {0 0 2}]}"},
		{"a star", [][]int{{2, 1, 3}, {0}, {0}, {0}}, "[[0 0] [0 0] [0 0]]", "[6]", "{1 [{0 0 2} {0 0 1} {0 0 3}]}"},
		{"a triangle", [][]int{{1, 2}, {0, 2}, {0, 1}}, "[[0 1] [1 0] [0 1]]", "[3 3]", "{2 [{0 1 1} {1 0 2} {0 1 3}]}"},
		{"two vertices alone, then a triangle", [][]int{{}, {}, {3, 4}, {2, 4}, {2, 3}}, "[[0 1] [1 0] [0 1]]", "[3 3]", "{2 [{0 1 1} {1 0 2} {0 1 3}]}"},
		{"two triangles at a vertex", [][]int{{1, 2, 3, 4}, {0, 2}, {1, 0}, {4, 0}, {0, 3}},
			"[[0 1] [1 0] [0 2] [2 0] [0 1] [0 2]]", "[6 3 3]", "{3 [{0 1 1} {1 0 2} {0 2 3} {2 0 4} {0 1 5} {0 2 6}]}"},
		{"a triangle with a bridge, and a vertex alone", [][]int{{1, 2}, {0, 2}, {0, 1, 4}, nil, {2}},
			"[[0 1] [1 0] [0 1] [0 0]]", "[5 3]", "{2 [{0 1 1} {1 0 2} {0 1 3} {0 0 4}]}"},
		{"a square with a chord", [][]int{{1, 2, 3}, {0, 2}, {0, 1, 3}, {0, 2}},
			"[[0 1] [1 2] [2 0] [0 1] [0 2]]", "[4 3 3]", "{3 [{0 1 1} {1 2 2} {2 0 3} {0 1 4} {0 2 5}]}"},
	} {
		g := of(c.r)
		sides, k := faces.Sides(g, c.r)
		isText(t, c.what+": Sides", fmt.Sprint(sides, int(k)), c.sides+" 0")
		lengths, k := faces.Lengths(g, c.r)
		isText(t, c.what+": Lengths", fmt.Sprint(lengths, int(k)), c.lengths+" 0")
		dual, k := faces.Dual(g, c.r)
		isText(t, c.what+": Dual", fmt.Sprint(dual, int(k)), c.dual+" 0")
	}
}

// P1001, P1002: faces whose lengths are known.
func TestKnownLengths(t *testing.T) {
	d := dice(1001)
	for _, c := range []struct {
		what  string
		r     [][]int
		known map[int]int // how many faces have which length
	}{
		{"a ring", ring(9), map[int]int{9: 2}},
		{"a wheel", wheel(10), map[int]int{3: 9, 9: 1}},
		{"a grid", grid(4, 6), map[int]int{4: 15, 16: 1}},
		{"a tree", d.mixed(rising(sorted(7, 0, 1, 1, 2, 1, 3, 3, 4, 0, 5, 5, 6))), map[int]int{12: 1}},
		{"triangles", d.triangles(50), map[int]int{3: 96}},
		{"some of these", beside(ring(5), alone(3), wheel(5), grid(1, 4)), map[int]int{5: 2, 3: 4, 4: 1, 6: 1}},
	} {
		lengths, k := faces.Lengths(of(c.r), c.r)
		got := map[int]int{}
		for _, length := range lengths {
			got[length]++
		}
		isText(t, c.what, fmt.Sprint(got, int(k)), fmt.Sprint(c.known, 0))
	}
}

// P1002: the dual has the weights, whatever they are.
func TestDualWeights(t *testing.T) {
	for _, s := range inPlane() {
		g := weighed(s.g)
		dual, k := faces.Dual(g, s.r)
		if k != api.OK || len(dual.E) != len(g.E) {
			t.Fatalf("%s: %d edges of %d, kind %d", s.what, len(dual.E), len(g.E), int(k))
		}
		for i, e := range dual.E {
			if e.W != g.E[i].W {
				t.Fatalf("%s: edge %d: weight %d, not %d", s.what, i, e.W, g.E[i].W)
			}
		}
	}
}

// P1001, P1002: faces, and so all that is told of them, hang on no weight and on no list's beginning.
func TestSameFaces(t *testing.T) {
	d := dice(1002)
	for _, s := range inPlane() {
		sides, _ := faces.Sides(s.g, s.r)
		turned, _ := faces.Sides(weighed(s.g), d.turned(s.r))
		isText(t, s.what+": Sides", turned, sides)
		lengths, _ := faces.Lengths(s.g, s.r)
		again, _ := faces.Lengths(weighed(s.g), d.turned(s.r))
		isText(t, s.what+": Lengths", again, lengths)
		dual, _ := faces.Dual(s.g, s.r)
		same, _ := faces.Dual(s.g, d.turned(s.r))
		isText(t, s.what+": Dual", same, dual)
	}
}
