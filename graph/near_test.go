package graph_test

import (
	"math"
	"slices"
	"testing"

	"filigree/api"
	"filigree/graph"
)

// P403: the place of each edge, in either order, and -1 of all other pairs.
func TestFindOfAllPairs(t *testing.T) {
	for _, g := range samples() {
		places := map[[2]int]int{}
		for i, e := range g.E {
			places[[2]int{e.U, e.V}] = i
			places[[2]int{e.V, e.U}] = i
		}
		for u := -2; u < min(g.N, 12)+2; u++ {
			for v := -2; v < min(g.N, 12)+2; v++ {
				isPlace(t, g, u, v, places)
			}
		}
		for ends := range places {
			isPlace(t, g, ends[0], ends[1], places)
		}
	}
}

// isPlace fails the test unless Find tells the place that the edge between u and v has.
func isPlace(t *testing.T, g api.Graph, u, v int, places map[[2]int]int) {
	t.Helper()
	want, found := places[[2]int{u, v}]
	if !found {
		want = -1
	}
	if got := graph.Find(g, u, v); got != want {
		t.Errorf("Find of %d and %d in %v: %d, not %d", u, v, head(g), got, want)
	}
}

// P403: vertices that are none of the graph's, up to the ends of an int.
func TestFindOfStrangeVertices(t *testing.T) {
	g := edges(4, 0, 1, 0, 3, 2, 3)
	strange := []int{math.MinInt, math.MinInt + 1, -1, 4, api.MaxN, math.MaxInt - 1, math.MaxInt}
	for _, u := range strange {
		for _, v := range append([]int{0, 1, 2, 3}, strange...) {
			if a, b := graph.Find(g, u, v), graph.Find(g, v, u); a != -1 || b != -1 {
				t.Errorf("Find of %d and %d: %d and %d", u, v, a, b)
			}
		}
	}
}

// P403: weights don't count where an edge is looked for.
func TestFindWhateverTheWeight(t *testing.T) {
	for _, w := range []int64{1 - api.MaxW, -1, 0, 1, api.MaxW - 1} {
		if got := graph.Find(joined(edges(3, 0, 1), weighed(3, 1, 2, w)), 2, 1); got != 1 {
			t.Errorf("weight %d: %d", w, got)
		}
	}
}

// P403: neighbours rise, and degrees count them.
func TestNearAndDegrees(t *testing.T) {
	for _, g := range samples() {
		near, degrees := graph.Near(g), graph.Degrees(g)
		if len(near) != g.N || len(degrees) != g.N {
			t.Fatalf("%d vertices: %d lists, %d degrees", g.N, len(near), len(degrees))
		}
		want := map[int][]int{}
		for _, e := range g.E {
			want[e.U] = append(want[e.U], e.V)
			want[e.V] = append(want[e.V], e.U)
		}
		for v := range g.N {
			slices.Sort(want[v])
			if !slices.Equal(near[v], want[v]) || degrees[v] != len(want[v]) {
				t.Fatalf("vertex %d of %v: near %v, degree %d", v, head(g), near[v], degrees[v])
			}
		}
	}
}

// P403: one graph by hand, whose vertices have neighbours on both sides.
func TestNearByHand(t *testing.T) {
	g := edges(6, 0, 2, 0, 4, 1, 2, 2, 3, 2, 4)
	want := [][]int{{2, 4}, {2}, {0, 1, 3, 4}, {2}, {0, 2}, {}}
	if got := graph.Near(g); !slices.EqualFunc(got, want, slices.Equal) {
		t.Errorf("Near: %v, not %v", got, want)
	}
	if got := graph.Degrees(g); !slices.Equal(got, []int{2, 1, 4, 1, 2, 0}) {
		t.Errorf("Degrees: %v", got)
	}
}

// P403: of a graph that is not right nothing is found, and there are no lists.
func TestNearOfWrong(t *testing.T) {
	for what, g := range wrongs() {
		for _, e := range append(g.E, api.Edge{U: 0, V: 1}) {
			if got := graph.Find(g, e.U, e.V); got != -1 {
				t.Errorf("%s: Find of %d and %d: %d", what, e.U, e.V, got)
			}
		}
		if got := graph.Near(g); len(got) != 0 {
			t.Errorf("%s: Near: %v", what, got)
		}
		if got := graph.Degrees(g); len(got) != 0 {
			t.Errorf("%s: Degrees: %v", what, got)
		}
	}
}

// P406: degrees' sum is twice the edges, and who is near to one has that one near.
func TestNearLaws(t *testing.T) {
	for _, g := range samples() {
		sum := 0
		for _, degree := range graph.Degrees(g) {
			sum += degree
		}
		if sum != 2*len(g.E) {
			t.Errorf("%d edges: degrees' sum %d", len(g.E), sum)
		}
		near := graph.Near(g)
		for v, list := range near {
			for _, u := range list {
				if !slices.Contains(near[u], v) || u == v {
					t.Errorf("%d is near %d, but near %d is %v", u, v, u, near[u])
				}
			}
		}
	}
}
