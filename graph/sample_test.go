package graph_test

import (
	"math"
	"slices"
	"testing"

	"filigree/api"
	"filigree/graph"
)

// dice throws the same numbers in every run.
type dice uint64

func (d *dice) next() uint64 {
	*d ^= *d << 13
	*d ^= *d >> 7
	*d ^= *d << 17
	return uint64(*d)
}

func (d *dice) below(n int) int { return int(d.next() % uint64(n)) }

// weight prefers weights at the ends of their range.
func (d *dice) weight() int64 {
	ends := []int64{0, 1, -1, api.MaxW - 1, 1 - api.MaxW}
	if i := d.below(2 * len(ends)); i < len(ends) {
		return ends[i]
	}
	return int64(d.below(2001)) - 1000
}

// graph is a right graph of n vertices, made by its definition: each pair in order is an edge, or not.
func (d *dice) graph(n, chance int) api.Graph {
	g := api.Graph{N: n}
	for u := range n {
		for v := u + 1; v < n; v++ {
			if d.below(100) < chance {
				g.E = append(g.E, api.Edge{U: u, V: v, W: d.weight()})
			}
		}
	}
	return g
}

// mixed is the edges in another order, some with their ends turned.
func (d *dice) mixed(l []api.Edge) []api.Edge {
	out := slices.Clone(l)
	for i := range out {
		j := d.below(i + 1)
		out[i], out[j] = out[j], out[i]
	}
	for i, e := range out {
		if d.below(2) == 0 {
			out[i].U, out[i].V = e.V, e.U
		}
	}
	return out
}

// samples is right graphs: the least ones, sparse, middling and full ones.
func samples() []api.Graph {
	d := dice(20261117)
	list := []api.Graph{{}, {E: []api.Edge{}}, {N: 1}, {N: api.MaxN}}
	for n := range 12 {
		for _, chance := range []int{0, 20, 50, 100} {
			list = append(list, d.graph(n, chance))
		}
	}
	far := api.MaxN - 1
	return append(list, edges(api.MaxN, 0, far, 1, far, far-1, far))
}

// edges is the graph of n vertices and these ends, in pairs, just as they are told; weights are 1, 2 and so on.
func edges(n int, ends ...int) api.Graph {
	g := api.Graph{N: n}
	for i := 0; i < len(ends); i += 2 {
		g.E = append(g.E, api.Edge{U: ends[i], V: ends[i+1], W: int64(i/2 + 1)})
	}
	return g
}

// weighed is the graph of n vertices and one edge of this weight.
func weighed(n, u, v int, w int64) api.Graph {
	return api.Graph{N: n, E: []api.Edge{{U: u, V: v, W: w}}}
}

// joined is g's vertices and edges, and those of all the others.
func joined(g api.Graph, others ...api.Graph) api.Graph {
	out := api.Graph{N: g.N, E: slices.Clone(g.E)}
	for _, o := range others {
		out.E = append(out.E, o.E...)
	}
	return out
}

// full is a graph of all the edges that may be, the first ones in order.
func full(m int) api.Graph {
	g := api.Graph{N: 4096, E: make([]api.Edge, 0, m)}
	for u := range g.N {
		for v := u + 1; v < g.N && len(g.E) < m; v++ {
			g.E = append(g.E, api.Edge{U: u, V: v, W: api.MaxW - 1})
		}
	}
	return g
}

// wrongs is graphs that are not right, one at least of each way.
func wrongs() map[string]api.Graph {
	return map[string]api.Graph{
		"N below 0":         {N: -1},
		"least N":           {N: math.MinInt},
		"N beyond":          {N: api.MaxN + 1},
		"greatest N":        {N: math.MaxInt},
		"a vertex below 0":  edges(3, -1, 1),
		"a vertex beyond":   edges(3, 0, 1, 1, 3),
		"the least vertex":  edges(3, math.MinInt, 1),
		"greatest vertex":   edges(3, 0, math.MaxInt),
		"no vertex at all":  edges(0, 0, 1),
		"a loop":            edges(3, 0, 1, 1, 1),
		"weight beyond":     weighed(3, 0, 1, api.MaxW),
		"weight below":      weighed(3, 0, 1, -api.MaxW),
		"ends turned":       edges(3, 1, 0),
		"an edge twice":     edges(3, 0, 1, 0, 1),
		"edges fall by U":   edges(3, 1, 2, 0, 1),
		"edges fall by V":   edges(3, 0, 2, 0, 1),
		"last of many":      edges(4, 0, 1, 0, 2, 1, 2, 2, 3, 1, 3),
		"greatest of all":   edges(math.MaxInt, 0, math.MaxInt-1),
		"N below 0 and one": edges(math.MinInt, 0, 1),
	}
}

// isKind fails the test unless got is want.
func isKind(t *testing.T, what string, got, want api.Kind) {
	t.Helper()
	if got != want {
		t.Errorf("%s: kind %d, not %d", what, int(got), int(want))
	}
}

// isGraph fails the test unless got has just want's vertices and edges, in its order.
func isGraph(t *testing.T, what string, got, want api.Graph) {
	t.Helper()
	if got.N != want.N || !slices.Equal(got.E, want.E) {
		t.Errorf("%s: %d vertices, %d edges %v, not %d vertices, %d edges %v",
			what, got.N, len(got.E), head(got), want.N, len(want.E), head(want))
	}
}

// head is the first edges of g, so that a failure stays readable.
func head(g api.Graph) []api.Edge { return g.E[:min(len(g.E), 20)] }

// made is the graph of these edges, which must be one.
func made(t *testing.T, n int, l []api.Edge) api.Graph {
	t.Helper()
	g, k := graph.Make(n, l)
	if k != api.OK {
		t.Fatalf("Make(%d, %d edges): kind %d", n, len(l), int(k))
	}
	return g
}
