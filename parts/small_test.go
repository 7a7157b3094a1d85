package parts_test

import (
	"slices"
	"testing"

	"filigree/api"
	"filigree/parts"
)

// smalls hands out every graph of at most most vertices.
func smalls(most int, with func(g api.Graph)) {
	for n := range most + 1 {
		var pairs [][2]int
		for u := range n {
			for v := u + 1; v < n; v++ {
				pairs = append(pairs, [2]int{u, v})
			}
		}
		for set := range 1 << len(pairs) {
			g := api.Graph{N: n}
			for i, p := range pairs {
				if set>>i&1 == 1 {
					g.E = append(g.E, api.Edge{U: p[0], V: p[1]})
				}
			}
			with(g)
		}
	}
}

// isLists fails the test unless both are the same lists in the same order.
func isLists(t *testing.T, what string, g api.Graph, got, want [][]int) {
	t.Helper()
	if !slices.EqualFunc(got, want, slices.Equal) {
		t.Fatalf("%s of %v: %v, not %v", what, g, got, want)
	}
}

// P601, P602: against the words, on all graphs of at most 6 vertices.
func TestAllSmall(t *testing.T) {
	smalls(6, func(g api.Graph) {
		isLists(t, "Components", g, parts.Components(g), componentsOf(g))
		isLists(t, "Cuts", g, [][]int{parts.Cuts(g)}, [][]int{cutsOf(g)})
		isLists(t, "Bridges", g, [][]int{parts.Bridges(g)}, [][]int{bridgesOf(g)})
	})
}

// P603: against the words, on all graphs of at most 6 vertices.
func TestBlocksOfAllSmall(t *testing.T) {
	ways := closedWays(6)
	smalls(6, func(g api.Graph) {
		isLists(t, "Blocks", g, parts.Blocks(g), blocksOf(g, ways))
	})
}

// P604: against all colourings that there are, on all graphs of at most 6 vertices.
func TestTwoOfAllSmall(t *testing.T) {
	smalls(6, func(g api.Graph) {
		sides, way, k := parts.Two(g)
		want, there := coloursOf(g)
		switch {
		case there && (k != api.OK || len(way) > 0 || !slices.Equal(sides, want)):
			t.Fatalf("Two of %v: %v, %v, kind %d, not %v", g, sides, way, int(k), want)
		case !there && (k != api.NoMatching || len(sides) > 0 || !isOdd(g, way)):
			t.Fatalf("Two of %v: %v, %v, kind %d, not an odd closed way", g, sides, way, int(k))
		}
	})
}

// P601, P602: against the words, on greater graphs.
func TestGreater(t *testing.T) {
	for _, g := range samples() {
		isLists(t, "Components", g, parts.Components(g), componentsOf(g))
		isLists(t, "Cuts", g, [][]int{parts.Cuts(g)}, [][]int{cutsOf(g)})
		if len(g.E) < 100 {
			isLists(t, "Bridges", g, [][]int{parts.Bridges(g)}, [][]int{bridgesOf(g)})
		}
	}
}
