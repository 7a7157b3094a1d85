package rotation_test

import (
	"math"
	"slices"
	"testing"

	"filigree/api"
	"filigree/rotation"
)

// isRefused fails the test unless all that ask for a system answer this kind, and nothing else.
func isRefused(t *testing.T, what string, g api.Graph, r [][]int, want api.Kind) {
	t.Helper()
	if k := rotation.Right(g, r); k != want {
		t.Errorf("%s: Right: kind %d, not %d", what, int(k), int(want))
	}
	if faces, k := rotation.Faces(g, r); len(faces) > 0 || k != want {
		t.Errorf("%s: Faces: %d faces, kind %d, not %d", what, len(faces), int(k), int(want))
	}
	if numbers, k := rotation.Euler(g, r); len(numbers) > 0 || k != want {
		t.Errorf("%s: Euler: %d numbers, kind %d, not %d", what, len(numbers), int(k), int(want))
	}
	if k := rotation.Plane(g, r); k != want {
		t.Errorf("%s: Plane: kind %d, not %d", what, int(k), int(want))
	}
	if lists, k := rotation.Canon(g, r); len(lists) > 0 || k != want {
		t.Errorf("%s: Canon: %d lists, kind %d, not %d", what, len(lists), int(k), int(want))
	}
}

// P701, P702, P703: graphs that are not right, also where the lists are wrong as well.
func TestWrongGraphs(t *testing.T) {
	for what, g := range wrongs() {
		for _, r := range [][][]int{nil, {}, {{1}, {0}, nil}, {{1}, {0}}, {{0}}, {{7, 7}, nil, {-1}}, {{1, 2}, {0, 2}, {0, 1}}} {
			isRefused(t, what, g, r, api.BadArg)
		}
	}
}

// P701, P702, P703: lists that are no system of the graph.
func TestWrongLists(t *testing.T) {
	triangle := sorted(3, round(0, 1, 2)...)
	apart := sorted(4, 1, 3)
	for _, c := range []struct {
		what string
		g    api.Graph
		r    [][]int
	}{
		{"no list", triangle, nil},
		{"no list, an empty one", triangle, [][]int{}},
		{"too few", triangle, [][]int{{1, 2}, {0, 2}}},
		{"too many", triangle, [][]int{{1, 2}, {0, 2}, {0, 1}, {}}},
		{"too many, nil", triangle, [][]int{{1, 2}, {0, 2}, {0, 1}, nil}},
		{"a list of no vertex", api.Graph{}, [][]int{{}}},
		{"vertices without lists", api.Graph{N: 2}, [][]int{{}}},
		{"a neighbour where there is no edge", api.Graph{N: 2}, [][]int{{1}, {0}}},
		{"a list that lacks", triangle, [][]int{{1, 2}, nil, {0, 1}}},
		{"a neighbour that lacks", triangle, [][]int{{1, 2}, {0, 2}, {0}}},
		{"a neighbour that lacks on both sides", triangle, [][]int{{1}, {0, 2}, {1}}},
		{"one twice, another lacks", triangle, [][]int{{1, 1}, {0, 2}, {0, 1}}},
		{"one twice beside all", triangle, [][]int{{1, 2, 1}, {0, 2}, {0, 1}}},
		{"one twice in the last", triangle, [][]int{{1, 2}, {0, 2}, {1, 1}}},
		{"its own number", triangle, [][]int{{1, 0}, {0, 2}, {0, 1}}},
		{"its own number beside all", triangle, [][]int{{1, 2, 0}, {0, 2}, {0, 1}}},
		{"one that is no neighbour", apart, [][]int{nil, {2}, nil, {1}}},
		{"one that is no neighbour beside all", apart, [][]int{nil, {3, 2}, nil, {1}}},
		{"a vertex of no edge has one", apart, [][]int{{2}, {3}, nil, {1}}},
		{"a number below 0", triangle, [][]int{{1, -1}, {0, 2}, {0, 1}}},
		{"a number one beyond", triangle, [][]int{{1, 3}, {0, 2}, {0, 1}}},
		{"the least number", triangle, [][]int{{1, 2}, {0, math.MinInt}, {0, 1}}},
		{"the greatest number", triangle, [][]int{{1, 2}, {0, 2}, {0, math.MaxInt}}},
		{"lists of other vertices", triangle, [][]int{{0, 2}, {1, 2}, {0, 1}}},
		{"of another graph", apart, [][]int{{1}, {0}, nil, nil}},
	} {
		isRefused(t, c.what, c.g, c.r, api.BadRotation)
	}
}

// P701: a right system in which one thing is spoilt is none any more.
func TestSpoilt(t *testing.T) {
	d := dice(701)
	for _, s := range samples() {
		for v := range s.r {
			if len(s.r[v]) == 0 {
				continue
			}
			spoilt := slices.Clone(s.r)
			spoilt[v] = slices.Clone(s.r[v])
			spoilt[v][d.below(len(spoilt[v]))] = d.below(s.g.N+2) - 1
			want := api.BadRotation
			if isSystem(s.g, spoilt) {
				want = api.OK
			}
			if k := rotation.Right(s.g, spoilt); k != want {
				t.Fatalf("%v of %v: kind %d, not %d", spoilt, s.g, int(k), int(want))
			}
		}
	}
}
