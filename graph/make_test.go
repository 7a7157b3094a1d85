package graph_test

import (
	"math"
	"testing"

	"filigree/api"
	"filigree/graph"
)

// P402: the chapter's example.
func TestMakeExample(t *testing.T) {
	g := made(t, 3, []api.Edge{{U: 2, V: 0}, {U: 0, V: 1}})
	isGraph(t, "Make", g, api.Graph{N: 3, E: []api.Edge{{U: 0, V: 1}, {U: 0, V: 2}}})
}

// P402: each edge keeps its weight, whichever way it comes.
func TestMakeKeepsWeights(t *testing.T) {
	g := made(t, 5, []api.Edge{
		{U: 4, V: 3, W: 1 - api.MaxW}, {U: 1, V: 0, W: api.MaxW - 1}, {U: 0, V: 4, W: 0}, {U: 3, V: 0, W: -5}, {U: 1, V: 4, W: 6},
	})
	isGraph(t, "Make", g, api.Graph{N: 5, E: []api.Edge{
		{U: 0, V: 1, W: api.MaxW - 1}, {U: 0, V: 3, W: -5}, {U: 0, V: 4, W: 0}, {U: 1, V: 4, W: 6}, {U: 3, V: 4, W: 1 - api.MaxW},
	}})
}

// P402: without an edge, and without a vertex; at the limit of N.
func TestMakeOfNothing(t *testing.T) {
	for _, n := range []int{0, 1, 2, api.MaxN} {
		isGraph(t, "nil", made(t, n, nil), api.Graph{N: n})
		isGraph(t, "empty", made(t, n, []api.Edge{}), api.Graph{N: n})
	}
	far := api.MaxN - 1
	isGraph(t, "far", made(t, api.MaxN, edges(0, far, 0).E), edges(api.MaxN, 0, far))
}

// P402: each thing that is wrong has its kind, and no graph beside it.
func TestMakeOfOneWrong(t *testing.T) {
	for _, c := range []struct {
		what string
		g    api.Graph
		want api.Kind
	}{
		{"N below 0", api.Graph{N: -1}, api.BadArg},
		{"least N", api.Graph{N: math.MinInt}, api.BadArg},
		{"N beyond", api.Graph{N: api.MaxN + 1}, api.TooLarge},
		{"greatest N", api.Graph{N: math.MaxInt}, api.TooLarge},
		{"U below 0", edges(3, 0, 1, -1, 1), api.BadVertex},
		{"V below 0", edges(3, 0, 1, 1, -1), api.BadVertex},
		{"U beyond", edges(3, 0, 1, 3, 1), api.BadVertex},
		{"V beyond", edges(3, 0, 1, 1, 3), api.BadVertex},
		{"the least vertex", edges(3, math.MinInt, math.MaxInt), api.BadVertex},
		{"the greatest vertex", edges(3, 0, math.MaxInt), api.BadVertex},
		{"no vertex", edges(0, 0, 1), api.BadVertex},
		{"a loop", edges(3, 0, 1, 2, 2), api.Loop},
		{"weight beyond", weighed(2, 1, 0, api.MaxW), api.BadWeight},
		{"weight below", weighed(2, 1, 0, -api.MaxW), api.BadWeight},
		{"least weight", weighed(2, 0, 1, math.MinInt64), api.BadWeight},
		{"greatest weight", weighed(2, 0, 1, math.MaxInt64), api.BadWeight},
		{"twice", edges(3, 0, 1, 0, 1), api.Twice},
		{"twice, turned", edges(3, 0, 1, 1, 0), api.Twice},
		{"twice, far apart", edges(5, 3, 1, 0, 1, 4, 2, 0, 3, 1, 3), api.Twice},
	} {
		g, k := graph.Make(c.g.N, c.g.E)
		isKind(t, c.what, k, c.want)
		if g.N != 0 || g.E != nil {
			t.Errorf("%s: a graph %v beside an error", c.what, g)
		}
	}
}

// P402: of two things wrong at once the one that is named first; Twice comes behind all edges' own kinds.
func TestMakeOrderOfKinds(t *testing.T) {
	many := make([]api.Edge, api.MaxM+1)
	for _, c := range []struct {
		what string
		g    api.Graph
		want api.Kind
	}{
		{"N below 0, too many edges", api.Graph{N: -1, E: many}, api.BadArg},
		{"N below 0, bad vertex", edges(-1, 0, 1), api.BadArg},
		{"too many edges, each a loop", api.Graph{N: 1, E: many}, api.TooLarge},
		{"N beyond, bad vertex", edges(api.MaxN+1, -1, 1), api.TooLarge},
		{"bad vertex, loop", edges(3, 3, 3), api.BadVertex},
		{"bad vertex, weight", weighed(3, 3, 0, api.MaxW), api.BadVertex},
		{"loop, weight", weighed(3, 1, 1, api.MaxW), api.Loop},
		{"loop, then bad vertex", edges(3, 1, 1, 0, 3), api.Loop},
		{"weight, then bad vertex", joined(weighed(3, 1, 2, api.MaxW), edges(3, 0, 3)), api.BadWeight},
		{"weight, then loop", joined(weighed(3, 1, 2, api.MaxW), edges(3, 0, 0)), api.BadWeight},
		{"bad vertex, then loop", edges(3, 0, 3, 0, 0), api.BadVertex},
		{"twice, then bad vertex", edges(3, 0, 1, 1, 0, 0, 3), api.BadVertex},
		{"twice, then loop", edges(3, 0, 1, 1, 0, 2, 2), api.Loop},
		{"twice, then weight", joined(edges(3, 0, 1, 1, 0), weighed(3, 0, 2, -api.MaxW)), api.BadWeight},
		{"twice by a bad weight", joined(edges(3, 0, 1), weighed(3, 0, 1, -api.MaxW)), api.BadWeight},
	} {
		_, k := graph.Make(c.g.N, c.g.E)
		isKind(t, c.what, k, c.want)
	}
}

// P402, P406: a right graph's edges, in any order and with their ends in any order, make it again, and nothing but a right graph is made.
func TestMakeOfMixedEdges(t *testing.T) {
	d := dice(402)
	for i, g := range samples() {
		for range 4 {
			got := made(t, g.N, d.mixed(g.E))
			isGraph(t, "mixed", got, g)
			isKind(t, "made", graph.Right(got), api.OK)
		}
		if len(g.E) == 0 {
			continue
		}
		again := append(d.mixed(g.E), g.E[d.below(len(g.E))])
		_, k := graph.Make(g.N, d.mixed(again))
		if k != api.Twice {
			t.Errorf("sample %d with an edge twice: kind %d", i, int(k))
		}
	}
}
