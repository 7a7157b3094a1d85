package paths_test

import (
	"fmt"
	"slices"
	"testing"

	"filigree/api"
	"filigree/paths"
)

// isGreat fails the test unless From answers these distances and Check says OK; Way goes to the last vertex over that many edges.
// Multigraphs are too great to be shown.
func isGreat(t *testing.T, what string, m api.Graph, v int, want func(u int) int64, edges int) {
	t.Helper()
	dist, via, k := paths.From(m, v)
	if k != api.OK || len(dist) != m.N {
		t.Fatalf("%s: %d numbers, kind %d", what, len(dist), int(k))
	}
	for u := range dist {
		if dist[u] != want(u) {
			t.Fatalf("%s: %d is %d from %d, not %d", what, u, dist[u], v, want(u))
		}
	}
	isKind(t, what+": Check", paths.Check(m, v, dist, via), api.OK)
	if got := len(paths.Way(m, via, m.N-1)); got != edges {
		t.Errorf("%s: Way has %d edges, not %d", what, got, edges)
	}
	dist[m.N/2]++
	isKind(t, what+": Check of a wrong dist", paths.Check(m, v, dist, via), api.BadWitness)
}

// P1201 to P1204: MaxN vertices and no edge; one vertex more is refused.
func TestMostVertices(t *testing.T) {
	m := api.Graph{N: api.MaxN}
	isKind(t, "MaxN", paths.Right(m), api.OK)
	isGreat(t, "no edge", m, api.MaxN-1, func(u int) int64 {
		if u == api.MaxN-1 {
			return 0
		}
		return -1
	}, 0)
	isRefused(t, "no vertex", m, api.MaxN, make([]int64, m.N), make([]int, m.N), api.BadVertex)
	m.N++
	isKind(t, "MaxN + 1", paths.Right(m), api.TooLarge)
	isRefused(t, "MaxN + 1", m, 0, make([]int64, m.N), make([]int, m.N), api.TooLarge)
}

// P1202 to P1204: ways and rings of MaxN vertices, as long as they can be, and of no length.
func TestLongWays(t *testing.T) {
	n := api.MaxN
	for _, w := range []int64{0, 1, api.MaxW - 1} {
		weight := func(int) int64 { return w }
		isGreat(t, fmt.Sprint("way of ", w), weighed(way(n), weight), 0, func(u int) int64 { return int64(u) * w }, n-1)
		isGreat(t, fmt.Sprint("ring of ", w), weighed(ring(n), weight), 0, func(u int) int64 { return int64(min(u, n-u)) * w }, 1)
	}
	d := dice(1207)
	order := d.order(n)
	m := api.Graph{N: n}
	at := make([]int, n)
	for i, v := range order {
		at[v] = i
		if i > 0 {
			m.E = append(m.E, api.Edge{U: order[i-1], V: v, W: api.MaxW - 1})
		}
	}
	isGreat(t, "a way in no order", m, order[0], func(u int) int64 { return int64(at[u]) * (api.MaxW - 1) }, at[n-1])
}

// P1203, P1204: a via over MaxN vertices of no length that goes round at its very end.
func TestLongRound(t *testing.T) {
	n := api.MaxN
	m := weighed(way(n), func(int) int64 { return 0 })
	dist, via, _ := paths.From(m, 0)
	isKind(t, "right", paths.Check(m, 0, dist, via), api.OK)
	via[1] = 1
	isKind(t, "round", paths.Check(m, 0, dist, via), api.BadWitness)
	got := paths.Way(m, via, n-1)
	if len(got) != n || got[0] != 1 || got[1] != 1 || got[n-1] != n-2 {
		t.Errorf("Way: %d edges", len(got))
	}
	if got := paths.Way(m, via, 1); len(got) != n {
		t.Errorf("Way: %d edges", len(got))
	}
}

// P1202 to P1204: MaxN vertices at one, and in rows and columns.
func TestGreatShapes(t *testing.T) {
	isGreat(t, "star", star(api.MaxN), 0, func(u int) int64 { return int64(min(u, 1)) }, 1)
	isGreat(t, "star, from a point of it", star(api.MaxN), 1, func(u int) int64 {
		if u < 2 {
			return int64(1 - u)
		}
		return 2
	}, 2)
	isGreat(t, "grid", grid(1<<10, 1<<10), 0, func(u int) int64 { return int64(u%(1<<10) + u/(1<<10)) }, 1<<11-2)
	d := dice(1208)
	m := looped(d.any(api.MaxN, 3*api.MaxN, api.MaxW))
	dist, via, k := paths.From(m, 0)
	if k != api.OK || paths.Check(m, 0, dist, via) != api.OK {
		t.Errorf("any of MaxM edges: kind %d", int(k))
	}
}

// P1201 to P1204: MaxM edges; one more is refused.
func TestMostEdges(t *testing.T) {
	n := 1
	for n*(n+1)/2 <= api.MaxM {
		n++
	}
	m := squares(n)
	for len(m.E) < api.MaxM {
		m.E = append(m.E, api.Edge{U: n - 1, V: 0, W: api.MaxW - 1})
	}
	isKind(t, "MaxM", paths.Right(m), api.OK)
	isGreat(t, "squares: each vertex makes shorter ways to all behind it", m, 0, func(u int) int64 { return int64(u) }, n-1)
	slices.Reverse(m.E)
	isGreat(t, "squares, from behind", m, 0, func(u int) int64 { return int64(u) }, n-1)
	m.E = append(m.E, m.E[0])
	isRefused(t, "MaxM + 1", m, 0, make([]int64, n), make([]int, n), api.TooLarge)

	side := api.Graph{N: 2, E: make([]api.Edge, api.MaxM)}
	for i := range side.E {
		side.E[i] = api.Edge{U: i % 2, V: 1 - i%2, W: int64(api.MaxM - i)}
	}
	isGreat(t, "side by side", side, 0, func(u int) int64 { return int64(u) }, 1)
	loops := api.Graph{N: 2, E: make([]api.Edge, api.MaxM)}
	loops.E[0] = api.Edge{U: 1, V: 0, W: 3}
	isGreat(t, "loops of no length", loops, 0, func(u int) int64 { return 3 * int64(u) }, 1)
}
