package levels_test

import (
	"slices"
	"testing"

	"filigree/api"
	"filigree/levels"
)

// isLevel fails the test unless Of answers these levels. Graphs are too great to be shown.
func isLevel(t *testing.T, what string, g api.Graph, want func(v int) int) {
	t.Helper()
	level, kind := levels.Of(g)
	if kind != api.OK || len(level) != g.N {
		t.Fatalf("%s: Of: %d levels, kind %d", what, len(level), int(kind))
	}
	for v := range level {
		if level[v] != want(v) {
			t.Fatalf("%s: Of: vertex %d has %d, not %d", what, v, level[v], want(v))
		}
	}
}

// P1801 to P1804: MaxN vertices, and no edge.
func TestMostVertices(t *testing.T) {
	const n = api.MaxN
	g := api.Graph{N: n}
	isLevel(t, "no edge", g, func(int) int { return 0 })
	isLaw(t, "no edge", g, api.MaxK)
	all, _ := levels.Pieces(g, 1, 1)
	none, kind := levels.Pieces(g, 1, 0)
	if len(all) != n || len(none) != 0 || kind != api.OK {
		t.Errorf("no edge: %d and %d pieces, kind %d", len(all), len(none), int(kind))
	}
	isRefused(t, "a vertex more", api.Graph{N: n + 1}, 1, 1, api.BadArg)
}

// P1801 to P1804: a way of MaxN vertices, in order and in none: levels up to MaxN - 1.
func TestLongWays(t *testing.T) {
	const n = api.MaxN
	g := sorted(n, along(upTo(n)...)...)
	isLevel(t, "a way", g, func(v int) int { return v })
	isLaw(t, "a way", g, 1)
	pieces, kind := levels.Pieces(g, api.MaxK, 3)
	if want := (n - 1 - 3) / 9; len(pieces) != want+1 || kind != api.OK { // one ahead of each that goes, the last of which is the last of all
		t.Errorf("a way: %d pieces, kind %d, not %d", len(pieces), int(kind), want+1)
	}
	d := dice(1805)
	order := d.order(n)
	at := make([]int, n)
	for i, v := range order {
		at[v] = i
	}
	mixed := sorted(n, along(order...)...)
	isLevel(t, "a mixed way", mixed, func(v int) int { return max(at[v]-at[0], at[0]-at[v]) })
	isLaw(t, "a mixed way", mixed, 4)
}

// P1801 to P1804: other graphs of MaxN vertices.
func TestGreatGraphs(t *testing.T) {
	const n = api.MaxN
	isLevel(t, "a ring", sorted(n, round(upTo(n)...)...), func(v int) int { return min(v, n-v) })
	isLevel(t, "a star", sorted(n, around(0, upTo(n)...)...), func(v int) int { return min(v, 1) })
	isLevel(t, "a star around the last", sorted(n, around(n-1, upTo(n)...)...), func(v int) int {
		switch v {
		case 0, n - 1:
			return min(v, 1)
		}
		return 2
	})
	squares := sorted(n, board(1<<10, 1<<10)...)
	isLevel(t, "a board", squares, func(v int) int { return v>>10 + v&(1<<10-1) })
	isLaw(t, "a board", squares, 2)
	d := dice(1806)
	isLaw(t, "a forest", d.named(d.thinner(99, d.tree(n, 9))), 3)
}

// P1801 to P1804: MaxM edges.
func TestMostEdges(t *testing.T) {
	g := full(api.MaxM)
	isLevel(t, "MaxM", g, func(v int) int { return min(v, 1) })
	isLaw(t, "MaxM", g, 1)
	isRefused(t, "an edge more", full(api.MaxM+1), 1, 1, api.BadArg)
	half := api.Graph{N: 4096}
	for u := range 2048 {
		for v := 2048; v < 4096; v++ {
			half.E = append(half.E, api.Edge{U: u, V: v})
		}
	}
	isLevel(t, "two halves", half, func(v int) int {
		switch {
		case v == 0:
			return 0
		case v >= 2048:
			return 1
		}
		return 2
	})
	pieces, _ := levels.Pieces(half, 1, 1)
	if len(pieces) != 2048 || slices.ContainsFunc(pieces, func(piece []int) bool { return len(piece) != 1 }) {
		t.Errorf("two halves: %d pieces", len(pieces))
	}
}
