package colour_test

import (
	"fmt"
	"slices"
	"testing"

	"filigree/api"
	"filigree/colour"
	"filigree/rotation"
)

// P1102: systems in the plane of many kinds.
func TestFive(t *testing.T) {
	for _, s := range inPlane() {
		isFive(t, s.what, s.g, s.r)
	}
}

// P1102: the edges that the chapter and the rules name.
func TestFiveEdges(t *testing.T) {
	for _, c := range []struct {
		what string
		g    api.Graph
		r    [][]int
	}{
		{"no vertex", api.Graph{}, nil},
		{"no vertex, empty lists", api.Graph{E: []api.Edge{}}, [][]int{}},
		{"a vertex alone", api.Graph{N: 1}, [][]int{nil}},
		{"a vertex alone, an empty list", api.Graph{N: 1}, [][]int{{}}},
		{"no edge", api.Graph{N: 4}, [][]int{nil, {}, nil, {}}},
		{"one edge", sorted(2, 0, 1), [][]int{{1}, {0}}},
		{"one edge between vertices alone", sorted(4, 1, 3), [][]int{nil, {3}, nil, {1}}},
		{"a triangle", of(ring(3)), ring(3)},
	} {
		isFive(t, c.what, c.g, c.r)
	}
}

// P1102: graphs of triangles, in many shapes, in which at first no vertex has a degree below 5.
func TestFiveOfFives(t *testing.T) {
	d := dice(1102)
	for n := range 150 {
		r := d.raised(d.triangles(4 + n/4))
		isFive(t, "raised", of(r), r)
		r = d.flipped(r, 50*n)
		isFive(t, "raised and flipped", of(r), r)
		r = d.flipped(drum(5+n/10, 2+n%7), 50*n)
		isFive(t, "flipped drum", of(r), r)
		if least(r) < 5 {
			t.Fatalf("a degree below 5: %v", r)
		}
	}
}

// P1102: graphs of triangles lose some of their edges, so that degrees of all sizes come about.
func TestFiveOfThinned(t *testing.T) {
	d := dice(1103)
	for n := range 100 {
		r := d.thinner(99-n/2, d.flipped(drum(6+n/4, 6), 100*n))
		isFive(t, "thinned", of(r), r)
	}
}

// P1102: vertices joined to two that stand apart, which many become one with.
func TestFiveOfPoles(t *testing.T) {
	d := dice(1104)
	for n := 3; n < 200; n += 7 {
		for _, rings := range []int{1, 2, 3} {
			r := d.named(drum(n, rings))
			isFive(t, fmt.Sprint(rings, " rings of ", n), of(r), r)
		}
	}
}

// isRefused fails the test unless Five answers this kind, which is rotation.Plane's, and nothing else.
func isRefused(t *testing.T, what string, g api.Graph, r [][]int, want api.Kind) {
	t.Helper()
	if k := rotation.Plane(g, r); k != want {
		t.Errorf("%s: Plane: kind %d, not %d", what, int(k), int(want))
	}
	if c, k := colour.Five(g, r); len(c) > 0 || k != want {
		t.Errorf("%s: Five: %d colours, kind %d, not %d", what, len(c), int(k), int(want))
	}
}

// P1102: graphs that are not right, also where the lists are wrong as well.
func TestFiveWrongGraphs(t *testing.T) {
	for what, g := range wrongs() {
		for _, r := range [][][]int{nil, {}, {{1}, {0}, nil}, {{1}, {0}}, {{0}}, {{7, 7}, nil, {-1}}, {{1, 2}, {0, 2}, {0, 1}}} {
			isRefused(t, what, g, r, api.BadArg)
		}
	}
}

// P1102: lists that are no system of the graph.
func TestFiveWrongLists(t *testing.T) {
	triangle := of(ring(3))
	apart := sorted(4, 1, 3)
	for _, c := range []struct {
		what string
		g    api.Graph
		r    [][]int
	}{
		{"no list", triangle, nil},
		{"no list, an empty one", triangle, [][]int{}},
		{"too few", triangle, [][]int{{1, 2}, {0, 2}}},
		{"too many", triangle, [][]int{{1, 2}, {0, 2}, {0, 1}, {}}},
		{"a list of no vertex", api.Graph{}, [][]int{{}}},
		{"vertices without lists", api.Graph{N: 2}, [][]int{{}}},
		{"vertices without any list", api.Graph{N: 2}, nil},
		{"a neighbour where there is no edge", api.Graph{N: 2}, [][]int{{1}, {0}}},
		{"a neighbour that lacks", triangle, [][]int{{1, 2}, {0, 2}, {0}}},
		{"a neighbour that lacks on both sides", triangle, [][]int{{1}, {0, 2}, {1}}},
		{"one twice, another lacks", triangle, [][]int{{1, 1}, {0, 2}, {0, 1}}},
		{"one twice beside all", triangle, [][]int{{1, 2, 1}, {0, 2}, {0, 1}}},
		{"its own number", triangle, [][]int{{1, 0}, {0, 2}, {0, 1}}},
		{"one that is no neighbour", apart, [][]int{nil, {2}, nil, {1}}},
		{"a number below 0", triangle, [][]int{{1, -1}, {0, 2}, {0, 1}}},
		{"a number one beyond", triangle, [][]int{{1, 3}, {0, 2}, {0, 1}}},
		{"of another graph", apart, [][]int{{1}, {0}, nil, nil}},
	} {
		isRefused(t, c.what, c.g, c.r, api.BadRotation)
	}
}

// P1102: right systems that are not in the plane, of graphs that are planar, and of such as are not.
func TestFiveNotInPlane(t *testing.T) {
	d := dice(1105)
	twisted := wheel(6)
	slices.Reverse(twisted[3])
	spoilt := icosahedron()
	spoilt[4][0], spoilt[4][1] = spoilt[4][1], spoilt[4][0]
	for what, r := range map[string][][]int{
		"K5":                                 rising(sorted(5, among(5)...)),
		"K6":                                 rising(sorted(6, among(6)...)),
		"K7":                                 rising(sorted(7, among(7)...)),
		"K3,3":                               rising(sorted(6, between(3, 3)...)),
		"K4, rising":                         rising(sorted(4, among(4)...)),
		"bagel":                              bagel(3, 4),
		"wheel, a list from behind":          twisted,
		"icosahedron, two change places":     spoilt,
		"the first of two components is not": beside(bagel(3, 3), ring(4)),
		"the last of two components is not":  beside(ring(4), bagel(3, 3)),
		"one of many is not":                 beside(alone(2), ring(4), alone(1), bagel(3, 3), d.forest(9), alone(2)),
	} {
		if k := rotation.Right(of(r), r); k != api.OK {
			t.Errorf("%s: Right: kind %d", what, int(k))
		}
		isRefused(t, what, of(r), r, api.BadRotation)
		isRefused(t, what+", begun elsewhere", of(r), d.turned(r), api.BadRotation)
	}
}

// P1102: of a system in which two neighbours change places, colours are told just if it is in the plane still.
func TestFiveSpoilt(t *testing.T) {
	d := dice(1106)
	kinds := map[api.Kind]int{}
	for _, s := range inPlane() {
		for v, list := range s.r {
			if len(list) < 3 || d.below(20) > 0 {
				continue
			}
			spoilt := slices.Clone(s.r)
			spoilt[v] = slices.Clone(list)
			i, j := d.below(len(list)), d.below(len(list))
			spoilt[v][i], spoilt[v][j] = list[j], list[i]
			k := rotation.Plane(s.g, spoilt)
			kinds[k]++
			if k == api.OK {
				isFive(t, s.what, s.g, spoilt)
			} else {
				isRefused(t, s.what, s.g, spoilt, api.BadRotation)
			}
		}
	}
	if kinds[api.OK] == 0 || kinds[api.BadRotation] == 0 {
		t.Errorf("systems in the plane and such as are not are asked for: %v", kinds)
	}
}
