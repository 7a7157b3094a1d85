package kuratowski_test

import (
	"fmt"
	"slices"
	"testing"

	"filigree/api"
	"filigree/kuratowski"
)

// isText fails the test unless both are written the same.
func isText(t *testing.T, what string, got, want any) {
	t.Helper()
	if fmt.Sprint(got) != fmt.Sprint(want) {
		t.Errorf("%s: %v, not %v", what, got, want)
	}
}

// isClass fails the test unless Class and Check answer this class; 0: they are no witness.
func isClass(t *testing.T, what string, g api.Graph, in []int, want int) {
	t.Helper()
	kind := api.OK
	if want == 0 {
		kind = api.BadWitness
	}
	class, k := kuratowski.Class(g, in)
	if class != want || k != kind {
		t.Fatalf("%s: Class of %v, %v: %d, kind %d, not %d, kind %d", what, g, in, class, int(k), want, int(kind))
	}
	if k := kuratowski.Check(g, in); k != kind {
		t.Fatalf("%s: Check of %v, %v: kind %d, not %d", what, g, in, int(k), int(kind))
	}
}

// P801: all ways, each from its lesser end, sorted by their vertices.
func TestWays(t *testing.T) {
	for _, c := range []struct {
		what string
		n    int
		ends []int
		want string
	}{
		{"no vertex", 0, nil, "[]"},
		{"no edge", 5, nil, "[]"},
		{"three ways between two corners", 4, []int{0, 1, 0, 2, 0, 3, 1, 3, 2, 3}, "[[0 1 3] [0 2 3] [0 3]]"},
		{"each way is an edge", 4, among(0, 1, 2, 3), "[[0 1] [0 2] [0 3] [1 2] [1 3] [2 3]]"},
		{"from the lesser end", 6, slices.Concat(along(4, 0, 1), along(4, 2, 1), along(4, 5, 3, 1)), "[[1 0 4] [1 2 4] [1 3 5 4]]"},
		{"the lesser end of a long way", 8, slices.Concat(along(7, 0, 1, 2, 6), along(7, 3, 6), []int{7, 6}),
			"[[6 2 1 0 7] [6 3 7] [6 7]]"},
		{"by the second vertex, not by the length", 7, slices.Concat(along(0, 1, 2, 3, 6), along(0, 5, 6), along(0, 4, 6), []int{0, 6}),
			"[[0 1 2 3 6] [0 4 6] [0 5 6] [0 6]]"},
		{"closed ways at one corner", 5, slices.Concat(round(0, 1, 2), round(2, 3, 4)), "[[2 0 1 2] [2 3 4 2]]"},
		{"closed ways from the lesser neighbour on", 6, slices.Concat(round(0, 5, 1, 3), round(0, 4, 2)), "[[0 2 4 0] [0 3 1 5 0]]"},
		{"closed ways at the greatest vertex", 7, slices.Concat(round(6, 3, 0, 4), round(6, 5, 2, 1)), "[[6 1 2 5 6] [6 3 0 4 6]]"},
		{"two closed ways, and one between", 8, slices.Concat(round(0, 1, 2), along(2, 3, 4, 5), round(5, 6, 7)),
			"[[2 0 1 2] [2 3 4 5] [5 6 7 5]]"},
		{"closed ways beside others", 6, slices.Concat(round(0, 1, 2), round(0, 3, 4), []int{0, 5, 3, 5}),
			"[[0 1 2 0] [0 3] [0 4 3] [0 5 3]]"},
		{"two components, a vertex alone between", 9, slices.Concat(among(0, 2, 4, 6), among(1, 3, 7, 8)),
			"[[0 2] [0 4] [0 6] [1 3] [1 7] [1 8] [2 4] [2 6] [3 7] [3 8] [4 6] [7 8]]"},
	} {
		g := sorted(c.n, c.ends...)
		for _, in := range [][]int{places(g, c.ends...), upTo(len(g.E))} {
			ways, k := kuratowski.Ways(g, in)
			isText(t, c.what, fmt.Sprint(ways, int(k)), c.want+" 0")
		}
	}
}

// P801: edges that are not told count for nothing.
func TestWaysOfSome(t *testing.T) {
	g := sorted(6, among(upTo(6)...)...)
	for _, c := range []struct {
		what string
		ends []int
		want string
	}{
		{"none", nil, "[]"},
		{"K4", among(1, 2, 4, 5), "[[1 2] [1 4] [1 5] [2 4] [2 5] [4 5]]"},
		{"three ways", slices.Concat(along(5, 4, 0), along(5, 1, 2, 0), along(5, 3, 0)), "[[0 2 1 5] [0 3 5] [0 4 5]]"},
		{"closed ways", slices.Concat(round(3, 0, 5), round(3, 4, 1)), "[[3 0 5 3] [3 1 4 3]]"},
	} {
		ways, k := kuratowski.Ways(g, places(g, c.ends...))
		isText(t, c.what, fmt.Sprint(ways, int(k)), c.want+" 0")
	}
}

// P801: a vertex of degree 1, or an edge on no way.
func TestNoWays(t *testing.T) {
	four := among(0, 1, 2, 3)
	for _, c := range []struct {
		what string
		n    int
		ends []int
	}{
		{"an edge", 2, []int{0, 1}},
		{"a way of no corner", 4, along(0, 2, 1, 3)},
		{"a star", 4, []int{0, 1, 0, 2, 0, 3}},
		{"a triangle", 3, round(0, 1, 2)},
		{"a long closed way", 8, round(4, 2, 0, 7, 6, 1, 3, 5)},
		{"two closed ways", 7, slices.Concat(round(0, 2, 4), round(1, 3, 5, 6))},
		{"an edge beside ways", 6, append(slices.Clone(four), 4, 5)},
		{"an edge that hangs at ways", 5, append(slices.Clone(four), 2, 4)},
		{"a long one that hangs at ways", 7, append(slices.Clone(four), along(2, 4, 6, 5)...)},
		{"one that hangs at an inner vertex", 6, slices.Concat(along(0, 1, 5), along(0, 2, 5), along(0, 3, 5), []int{2, 4})},
		{"a closed way beside ways", 7, append(slices.Clone(four), round(4, 5, 6)...)},
		{"a closed way ahead of ways", 7, append(round(0, 1, 2), among(3, 4, 5, 6)...)},
	} {
		g := sorted(c.n, c.ends...)
		ways, k := kuratowski.Ways(g, upTo(len(g.E)))
		isText(t, c.what, fmt.Sprint(ways, int(k)), "[] 13")
		isClass(t, c.what, g, upTo(len(g.E)), 0)
	}
}

// P802: the chapter's example, and witnesses that are whole graphs.
func TestWholeWitnesses(t *testing.T) {
	five, threes := sorted(5, among(upTo(5)...)...), sorted(6, between(3, 3)...)
	isClass(t, "K5", five, upTo(10), 5)
	isClass(t, "K3,3", threes, upTo(9), 33)
	isClass(t, "K5 from behind", five, []int{9, 8, 7, 6, 5, 4, 3, 2, 1, 0}, 5)
	for left := range 10 {
		isClass(t, "nine of K5", five, slices.Delete(upTo(10), left, left+1), 0)
	}
	for left := range 9 {
		isClass(t, "eight of K3,3", threes, slices.Delete(upTo(9), left, left+1), 0)
	}
}

// P802: subdivisions that are written out.
func TestSubdivisions(t *testing.T) {
	crossed := []int{0, 1, 0, 3, 0, 5, 2, 1, 2, 3, 2, 5, 4, 1, 4, 3, 4, 5}
	for _, c := range []struct {
		what string
		n    int
		ends []int
		want int
	}{
		{"K5, one way of two edges", 6, append(among(upTo(5)...)[2:], along(1, 5, 0)...), 5},
		{"K5, one way of many edges", 9, append(among(upTo(5)...)[2:], along(1, 8, 6, 5, 7, 0)...), 5},
		{"K5, corners behind", 8, append(among(3, 4, 5, 6, 7)[2:], along(4, 0, 2, 1, 3)...), 5},
		{"K3,3, sides in turn", 6, crossed, 33},
		{"K3,3, one way of two edges", 7, append(slices.Clone(crossed)[2:], along(0, 6, 1)...), 33},
		{"K3,3, two ways of many edges", 12, slices.Concat(crossed[4:], along(0, 6, 7, 8, 1), along(0, 11, 9, 10, 3)), 33},
		{"a closed way of six, across by threes", 6, append(round(0, 1, 2, 3, 4, 5), 0, 3, 1, 4, 2, 5), 33},
	} {
		g := sorted(c.n, c.ends...)
		isClass(t, c.what, g, upTo(len(g.E)), c.want)
	}
}

// P802: edges that are no witness, though they have ways.
func TestNoWitness(t *testing.T) {
	five, threes := among(upTo(5)...), between(3, 3)
	for _, c := range []struct {
		what string
		n    int
		ends []int
	}{
		{"no edge", 6, nil},
		{"five corners of degree 4, each two neighbours joined twice", 10, doubled(5, 1)},
		{"six corners of degree 3 in threes, some joined twice", 9, doubled(6, 2)},
		{"six corners of degree 3 that cannot be parted", 6, prism()},
		{"five corners of degree 4, each with a closed way", 15, slices.Concat(round(0, 1, 2, 3, 4), round(0, 5, 6), round(1, 7, 8),
			round(2, 9, 10), round(3, 11, 12), round(4, 13, 14))},
		{"six corners of degree 3, two with a closed way", 10, slices.Concat(round(0, 6, 7), []int{0, 1}, along(1, 2, 3, 4), along(1, 3), along(2, 4),
			[]int{4, 5}, round(5, 8, 9))},
		{"ten ways, not five corners", 6, slices.Concat(round(0, 1, 2, 3, 4), []int{5, 0, 5, 1, 5, 2, 5, 3, 5, 4})},
		{"ten ways of two corners", 11, doubledWays(10)},
		{"nine ways of two corners", 10, doubledWays(9)},
		{"nine ways of five corners", 5, five[2:]},
		{"five corners of degree 4, and one more edge hangs", 7, append(slices.Clone(five), along(0, 5, 6)...)},
		{"K5 and a closed way beside it", 8, append(slices.Clone(five), round(5, 6, 7)...)},
		{"K5 and an edge beside it", 7, append(slices.Clone(five), 5, 6)},
		{"K3,3 and a closed way beside it", 9, append(slices.Clone(threes), round(6, 7, 8)...)},
		{"K3,3 and an edge more", 6, append(slices.Clone(threes), 0, 1)},
		{"K5, two corners joined once more", 6, append(slices.Clone(five), along(0, 5, 1)...)},
		{"K5 and K3,3", 11, append(slices.Clone(threes), among(6, 7, 8, 9, 10)...)},
		{"K5 twice at one corner", 9, append(slices.Clone(five), among(4, 5, 6, 7, 8)...)},
		{"K4", 4, among(0, 1, 2, 3)},
		{"K6", 6, among(upTo(6)...)},
		{"K3,4", 7, between(3, 4)},
		{"a graph of ten corners", 10, petersen()},
	} {
		g := sorted(c.n, c.ends...)
		isClass(t, c.what, g, upTo(len(g.E)), 0)
	}
}

// doubledWays is the ends of so many ways between the vertices 0 and 1, one of them an edge.
func doubledWays(n int) []int {
	ends := []int{0, 1}
	for v := range n - 1 {
		ends = append(ends, along(0, v+2, 1)...)
	}
	return ends
}

// P802: witnesses among other edges and vertices, in any order.
func TestHiddenWitnesses(t *testing.T) {
	for class, list := range witnesses() {
		for _, s := range list {
			isClass(t, "hidden", s.g, s.in, class)
		}
	}
	for _, s := range others() {
		isClass(t, "no witness", s.g, s.in, 0)
	}
}

// P801, P802: the order of places, and weights, change nothing.
func TestOrderMeansNothing(t *testing.T) {
	d := dice(802)
	for _, s := range all() {
		want, _ := kuratowski.Ways(s.g, s.in)
		h := api.Graph{N: s.g.N, E: slices.Clone(s.g.E)}
		for i := range h.E {
			h.E[i].W = int64(i%3-1) * (api.MaxW - 1)
		}
		if ways, k := kuratowski.Ways(h, d.mixed(s.in)); k != api.OK || !slices.EqualFunc(ways, want, slices.Equal) {
			t.Fatalf("Ways of %v, %v: %v, kind %d, not %v", s.g, s.in, ways, int(k), want)
		}
	}
}
