package parts_test

import (
	"slices"
	"testing"

	"filigree/api"
	"filigree/parts"
)

// lone is each of the numbers below n in a list of its own.
func lone(n int) [][]int {
	lists := make([][]int, n)
	for i := range lists {
		lists[i] = []int{i}
	}
	return lists
}

// isParts fails the test unless the answers are these. Graphs are too great to be shown.
func isParts(t *testing.T, what string, g api.Graph, components, blocks [][]int, cuts, bridges []int) {
	t.Helper()
	if got := parts.Components(g); !slices.EqualFunc(got, components, slices.Equal) {
		t.Errorf("%s: %d components, not %d, or others", what, len(got), len(components))
	}
	if got := parts.Blocks(g); !slices.EqualFunc(got, blocks, slices.Equal) {
		t.Errorf("%s: %d blocks, not %d, or others", what, len(got), len(blocks))
	}
	if got := parts.Cuts(g); !slices.Equal(got, cuts) {
		t.Errorf("%s: %d cut vertices, not %d, or others", what, len(got), len(cuts))
	}
	if got := parts.Bridges(g); !slices.Equal(got, bridges) {
		t.Errorf("%s: %d bridges, not %d, or others", what, len(got), len(bridges))
	}
}

// isEven fails the test unless Two answers these colours.
func isEven(t *testing.T, what string, g api.Graph, want func(v int) bool) {
	t.Helper()
	sides, way, k := parts.Two(g)
	if k != api.OK || len(way) > 0 || len(sides) != g.N {
		t.Fatalf("%s: Two: %d colours, %d of a way, kind %d", what, len(sides), len(way), int(k))
	}
	for v, side := range sides {
		if side != want(v) {
			t.Fatalf("%s: Two: vertex %d is %v", what, v, side)
		}
	}
}

// P601 to P604: MaxN vertices, and no edge.
func TestMostVertices(t *testing.T) {
	g := api.Graph{N: api.MaxN}
	isParts(t, "no edge", g, lone(g.N), nil, nil, nil)
	isEven(t, "no edge", g, func(int) bool { return false })
}

// P601 to P604: a way of MaxN vertices.
func TestLongWay(t *testing.T) {
	n := api.MaxN
	g := sorted(n, along(upTo(n)...)...)
	isParts(t, "a way", g, [][]int{upTo(n)}, lone(n-1), upTo(n)[1:n-1], upTo(n-1))
	isEven(t, "a way", g, func(v int) bool { return v%2 == 1 })
}

// P601 to P604: a way over MaxN vertices in no order.
func TestLongMixedWay(t *testing.T) {
	n := api.MaxN
	d := dice(604)
	order := d.order(n)
	g := sorted(n, along(order...)...)
	cuts := slices.Clone(order[1 : n-1])
	slices.Sort(cuts)
	isParts(t, "a way", g, [][]int{upTo(n)}, lone(n-1), cuts, upTo(n-1))
	at := make([]int, n)
	for i, v := range order {
		at[v] = i
	}
	isEven(t, "a way", g, func(v int) bool { return (at[v]-at[0])%2 != 0 })
}

// P601 to P604: a closed way of an even number of vertices, and one of an odd number.
func TestGreatClosedWay(t *testing.T) {
	n := api.MaxN
	g := sorted(n, round(upTo(n)...)...)
	isParts(t, "even", g, [][]int{upTo(n)}, [][]int{upTo(n)}, nil, nil)
	isEven(t, "even", g, func(v int) bool { return v%2 == 1 })

	n--
	g = sorted(n+1, round(upTo(n)...)...)
	isParts(t, "odd", g, [][]int{upTo(n), {n}}, [][]int{upTo(n)}, nil, nil)
	sides, way, k := parts.Two(g)
	if k != api.NoMatching || len(sides) > 0 || len(way) != n || !isOdd(g, way) {
		t.Errorf("odd: Two: %d colours, %d of a way, kind %d", len(sides), len(way), int(k))
	}
}

// P601 to P604: MaxN vertices at one, and it the least, or the greatest.
func TestGreatStar(t *testing.T) {
	n := api.MaxN
	for _, middle := range []int{0, n - 1} {
		g := api.Graph{N: n}
		for v := range n {
			if v != middle {
				g.E = append(g.E, api.Edge{U: min(v, middle), V: max(v, middle)})
			}
		}
		isParts(t, "a star", g, [][]int{upTo(n)}, lone(n-1), []int{middle}, upTo(n-1))
		isEven(t, "a star", g, func(v int) bool { return (v == middle) != (middle == 0) })
	}
}

// P601 to P604: triangles in a row, each with one vertex in common with the next.
func TestManyBlocks(t *testing.T) {
	n := api.MaxN - 1
	var ends, cuts []int
	var blocks [][]int
	for v := 0; v+2 < n; v += 2 {
		ends = append(ends, v, v+1, v, v+2, v+1, v+2)
		blocks = append(blocks, []int{v / 2 * 3, v/2*3 + 1, v/2*3 + 2})
		if v > 0 {
			cuts = append(cuts, v)
		}
	}
	g := edges(n, ends...)
	isParts(t, "triangles", g, [][]int{upTo(n)}, blocks, cuts, nil)
	if _, way, k := parts.Two(g); k != api.NoMatching || !isOdd(g, way) {
		t.Errorf("triangles: Two: %d of a way, kind %d", len(way), int(k))
	}
}

// P601 to P604: MaxM edges.
func TestMostEdges(t *testing.T) {
	g := full(api.MaxM)
	isParts(t, "full", g, [][]int{upTo(g.N)}, [][]int{upTo(len(g.E))}, nil, nil)
	if _, way, k := parts.Two(g); k != api.NoMatching || !isOdd(g, way) {
		t.Errorf("full: Two: %d of a way, kind %d", len(way), int(k))
	}
	half := api.Graph{N: 4096}
	for u := range 2048 {
		for v := 2048; v < 4096; v++ {
			half.E = append(half.E, api.Edge{U: u, V: v})
		}
	}
	isParts(t, "two halves", half, [][]int{upTo(4096)}, [][]int{upTo(api.MaxM)}, nil, nil)
	isEven(t, "two halves", half, func(v int) bool { return v >= 2048 })
}
