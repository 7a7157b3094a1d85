package faces_test

import (
	"fmt"
	"slices"
	"testing"

	"filigree/api"
	"filigree/faces"
	"filigree/rotation"
)

// P1003: what is told of graphs that are joined by hand.
func TestJoinedTold(t *testing.T) {
	for _, c := range []struct {
		what  string
		r     [][]int
		edges string
		lists string
	}{
		{"no vertex", nil, "[]", "[]"},
		{"a vertex alone", [][]int{{}}, "[]", "[[]]"},
		{"two alone", [][]int{{}, nil}, "[{0 1 0}]", "[[1] [0]]"},
		{"four alone", [][]int{{}, nil, {}, {}}, "[{0 1 0} {0 2 0} {0 3 0}]", "[[1 2 3] [0] [0] [0]]"},
		{"one component", [][]int{{2, 1}, {0, 2}, {0, 1}}, "[{0 1 2} {0 2 1} {1 2 3}]", "[[2 1] [0 2] [0 1]]"},
		{"a vertex alone behind", [][]int{{2, 1}, {0, 2}, {0, 1}, {}}, "[{0 1 2} {0 2 1} {0 3 0} {1 2 3}]", "[[2 1 3] [0 2] [0 1] [0]]"},
		{"a vertex alone ahead", [][]int{{}, {3, 2}, {1, 3}, {1, 2}}, "[{0 1 0} {1 2 2} {1 3 1} {2 3 3}]", "[[1] [3 2 0] [1 3] [1 2]]"},
		{"two edges, in turn", [][]int{{2}, {3}, {0}, {1}}, "[{0 1 0} {0 2 1} {1 3 2}]", "[[2 1] [3 0] [0] [1]]"},
		{"some between the others", [][]int{{5, 3}, {}, {4}, {0}, {2}, {0}, {}},
			"[{0 1 0} {0 2 0} {0 3 2} {0 5 1} {0 6 0} {2 4 3}]", "[[5 3 1 2 6] [0] [4 0] [0] [2] [0] [0]]"},
		{"two triangles", [][]int{{1, 2}, {2, 0}, {1, 0}, {5, 4}, {5, 3}, {4, 3}},
			"[{0 1 1} {0 2 2} {0 3 0} {1 2 3} {3 4 5} {3 5 4} {4 5 6}]", "[[1 2 3] [2 0] [1 0] [5 4 0] [5 3] [4 3]]"},
	} {
		joined, lists, k := faces.Joined(of(c.r), c.r)
		isText(t, c.what, fmt.Sprint(joined.N, joined.E, lists, int(k)), fmt.Sprint(len(c.r), " ", c.edges, " ", c.lists, " 0"))
	}
}

// P1003: weights stay as they are, and new edges have none.
func TestJoinedWeights(t *testing.T) {
	g := api.Graph{N: 5, E: []api.Edge{{U: 0, V: 2, W: api.MaxW - 1}, {U: 0, V: 4, W: 1 - api.MaxW}, {U: 2, V: 4, W: -1}}}
	joined, _, k := faces.Joined(g, rising(g))
	isText(t, "edges", fmt.Sprint(joined.E, int(k)), "[{0 1 0} {0 2 2147483647} {0 3 0} {0 4 -2147483647} {2 4 -1}] 0")
}

// P1003: one component is joined already: nothing is added, and joined again nothing more.
func TestNothingToJoin(t *testing.T) {
	for _, s := range inPlane() {
		joined, lists, _ := faces.Joined(s.g, s.r)
		if len(othersOf(s.g)) == 0 && (!same(joined, s.g) || !slices.EqualFunc(lists, s.r, slices.Equal)) {
			t.Fatalf("%s: %v, %v: %v, %v", s.what, s.g, s.r, joined, lists)
		}
		again, order, k := faces.Joined(joined, lists)
		if k != api.OK || !same(again, joined) || !slices.EqualFunc(order, lists, slices.Equal) {
			t.Fatalf("%s: %v, %v: joined again: %v, %v, kind %d", s.what, joined, lists, again, order, int(k))
		}
	}
}

// P1003, P1004: what is joined is a right system, in the plane, and has as many faces as one component of its edges has.
func TestJoinedInPlane(t *testing.T) {
	for _, s := range inPlane() {
		joined, lists, k := faces.Joined(s.g, s.r)
		if k != api.OK || rotation.Right(joined, lists) != api.OK || rotation.Plane(joined, lists) != api.OK {
			t.Fatalf("%s: %v, %v: %v, %v, kind %d", s.what, s.g, s.r, joined, lists, int(k))
		}
		rounds, _ := rotation.Faces(joined, lists)
		if want := len(joined.E) - s.g.N + 2; len(joined.E) > 0 && len(rounds) != want {
			t.Fatalf("%s: %d faces, not %d", s.what, len(rounds), want)
		}
	}
}
