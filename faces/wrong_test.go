package faces_test

import (
	"fmt"
	"math"
	"slices"
	"testing"

	"filigree/api"
	"filigree/faces"
	"filigree/rotation"
)

// isRefused fails the test unless all answer this kind, which is rotation.Plane's, and nothing else.
func isRefused(t *testing.T, what string, g api.Graph, r [][]int, want api.Kind) {
	t.Helper()
	if k := rotation.Plane(g, r); k != want {
		t.Errorf("%s: Plane: kind %d, not %d", what, int(k), int(want))
	}
	if sides, k := faces.Sides(g, r); len(sides) > 0 || k != want {
		t.Errorf("%s: Sides: %d sides, kind %d, not %d", what, len(sides), int(k), int(want))
	}
	if lengths, k := faces.Lengths(g, r); len(lengths) > 0 || k != want {
		t.Errorf("%s: Lengths: %d lengths, kind %d, not %d", what, len(lengths), int(k), int(want))
	}
	if dual, k := faces.Dual(g, r); dual.N != 0 || len(dual.E) > 0 || k != want {
		t.Errorf("%s: Dual: %d vertices, %d edges, kind %d, not %d", what, dual.N, len(dual.E), int(k), int(want))
	}
	if joined, lists, k := faces.Joined(g, r); joined.N != 0 || len(joined.E) > 0 || len(lists) > 0 || k != want {
		t.Errorf("%s: Joined: %d vertices, %d edges, %d lists, kind %d, not %d", what, joined.N, len(joined.E), len(lists), int(k), int(want))
	}
}

// P1001, P1002, P1003: graphs that are not right, also where the lists are wrong as well.
func TestWrongGraphs(t *testing.T) {
	for what, g := range wrongs() {
		for _, r := range [][][]int{nil, {}, {{1}, {0}, nil}, {{1}, {0}}, {{0}}, {{7, 7}, nil, {-1}}, {{1, 2}, {0, 2}, {0, 1}}} {
			isRefused(t, what, g, r, api.BadArg)
		}
	}
}

// P1001, P1002, P1003: lists that are no system of the graph.
func TestWrongLists(t *testing.T) {
	triangle := of(ring(3))
	apart := sorted(4, 1, 3)
	for _, c := range []struct {
		what string
		g    api.Graph
		r    [][]int
	}{
		{"no list", triangle, nil},
		{"no list, an empty one", triangle, [][]int{}},
		{"too few", triangle, [][]int{{1, 2}, {0, 2}}},
		{"too many", triangle, [][]int{{1, 2}, {0, 2}, {0, 1}, {}}},
		{"too many, nil", triangle, [][]int{{1, 2}, {0, 2}, {0, 1}, nil}},
		{"a list of no vertex", api.Graph{}, [][]int{{}}},
		{"vertices without lists", api.Graph{N: 2}, [][]int{{}}},
		{"vertices without any list", api.Graph{N: 2}, nil},
		{"a neighbour where there is no edge", api.Graph{N: 2}, [][]int{{1}, {0}}},
		{"a list that lacks", triangle, [][]int{{1, 2}, nil, {0, 1}}},
		{"a neighbour that lacks", triangle, [][]int{{1, 2}, {0, 2}, {0}}},
		{"a neighbour that lacks on both sides", triangle, [][]int{{1}, {0, 2}, {1}}},
		{"one twice, another lacks", triangle, [][]int{{1, 1}, {0, 2}, {0, 1}}},
		{"one twice beside all", triangle, [][]int{{1, 2, 1}, {0, 2}, {0, 1}}},
		{"its own number", triangle, [][]int{{1, 0}, {0, 2}, {0, 1}}},
		{"one that is no neighbour", apart, [][]int{nil, {2}, nil, {1}}},
		{"a vertex of no edge has one", apart, [][]int{{2}, {3}, nil, {1}}},
		{"a number below 0", triangle, [][]int{{1, -1}, {0, 2}, {0, 1}}},
		{"a number one beyond", triangle, [][]int{{1, 3}, {0, 2}, {0, 1}}},
		{"the least number", triangle, [][]int{{1, 2}, {0, math.MinInt}, {0, 1}}},
		{"the greatest number", triangle, [][]int{{1, 2}, {0, 2}, {0, math.MaxInt}}},
		{"of another graph", apart, [][]int{{1}, {0}, nil, nil}},
	} {
		isRefused(t, c.what, c.g, c.r, api.BadRotation)
	}
}

// P1001, P1002, P1003: right systems that are not in the plane.
func TestNotInPlane(t *testing.T) {
	d := dice(1003)
	twisted := wheel(6)
	slices.Reverse(twisted[3])
	for what, r := range map[string][][]int{
		"K5":                                    rising(sorted(5, among(5)...)),
		"K3,3":                                  rising(sorted(6, between(3, 3)...)),
		"K4, rising":                            rising(sorted(4, among(4)...)),
		"bagel":                                 bagel(3, 4),
		"wheel, a list from behind":             twisted,
		"grid, a list from behind":              spoiltGrid(4, 5),
		"the first of two components is not":    beside(bagel(3, 3), ring(4)),
		"the last of two components is not":     beside(ring(4), bagel(3, 3)),
		"one of many is not":                    beside(alone(2), ring(4), alone(1), bagel(3, 3), d.forest(9), alone(2)),
		"one is not, and a vertex alone before": beside(alone(1), bagel(4, 4)),
	} {
		if k := rotation.Right(of(r), r); k != api.OK {
			t.Errorf("%s: Right: kind %d", what, int(k))
		}
		isRefused(t, what, of(r), r, api.BadRotation)
		isRefused(t, what+", begun elsewhere", of(r), d.turned(r), api.BadRotation)
	}
}

// spoiltGrid is a grid with the list of a vertex within from behind.
func spoiltGrid(rows, columns int) [][]int {
	r := grid(rows, columns)
	slices.Reverse(r[columns+1])
	return r
}

// P1001, P1002, P1003: a system in which one number is spoilt is none any more; in which two change places it may be in the
// plane, or not.
func TestSpoilt(t *testing.T) {
	d := dice(1004)
	kinds := map[api.Kind]int{}
	for _, s := range inPlane() {
		for v, list := range s.r {
			if len(list) < 3 || d.below(4) > 0 {
				continue
			}
			spoilt := slices.Clone(s.r)
			spoilt[v] = slices.Clone(list)
			i, j := d.below(len(list)), d.below(len(list))
			spoilt[v][i], spoilt[v][j] = list[j], list[i]
			k := rotation.Plane(s.g, spoilt)
			kinds[k]++
			what := fmt.Sprint(s.what, ", two of ", v)
			if k != api.OK {
				isRefused(t, what, s.g, spoilt, api.BadRotation)
			} else {
				isAsTheWords(t, what, s.g, spoilt)
			}
			spoilt[v][i] = v
			isRefused(t, what+", one its own number", s.g, spoilt, api.BadRotation)
		}
	}
	if kinds[api.OK] == 0 || kinds[api.BadRotation] == 0 {
		t.Errorf("systems in the plane and such as are not are asked for: %v", kinds)
	}
}
