package graph_test

import (
	"math"
	"slices"
	"testing"

	"filigree/api"
	"filigree/graph"
)

// P401: what is right is told so, at the edges of each range too.
func TestRightOfRight(t *testing.T) {
	for i, g := range samples() {
		if k := graph.Right(g); k != api.OK {
			t.Errorf("sample %d: kind %d", i, int(k))
		}
	}
	isKind(t, "greatest weight", graph.Right(weighed(2, 0, 1, api.MaxW-1)), api.OK)
	isKind(t, "least weight", graph.Right(weighed(2, 0, 1, 1-api.MaxW)), api.OK)
	isKind(t, "greatest vertex", graph.Right(edges(api.MaxN, api.MaxN-2, api.MaxN-1)), api.OK)
	isKind(t, "the same V, then the same U", graph.Right(edges(4, 0, 3, 1, 3, 2, 3)), api.OK)
	isKind(t, "V falls while U rises", graph.Right(edges(5, 0, 4, 1, 2)), api.OK)
}

// P401: each way of not being right has its kind.
func TestRightOfOneWrong(t *testing.T) {
	for what, want := range map[string]api.Kind{
		"N below 0":        api.BadArg,
		"least N":          api.BadArg,
		"N beyond":         api.TooLarge,
		"greatest N":       api.TooLarge,
		"a vertex below 0": api.BadVertex,
		"a vertex beyond":  api.BadVertex,
		"the least vertex": api.BadVertex,
		"greatest vertex":  api.BadVertex,
		"no vertex at all": api.BadVertex,
		"a loop":           api.Loop,
		"weight beyond":    api.BadWeight,
		"weight below":     api.BadWeight,
		"ends turned":      api.BadArg,
		"an edge twice":    api.Twice,
		"edges fall by U":  api.BadArg,
		"edges fall by V":  api.BadArg,
		"last of many":     api.BadArg,
	} {
		isKind(t, what, graph.Right(wrongs()[what]), want)
	}
	for what, g := range wrongs() {
		if graph.Right(g) == api.OK {
			t.Errorf("%s: right", what)
		}
	}
	for _, w := range []int64{math.MinInt64, -api.MaxW - 1, api.MaxW + 1, math.MaxInt64} {
		isKind(t, "weight", graph.Right(weighed(2, 0, 1, w)), api.BadWeight)
	}
}

// P401: an edge is there twice by its ends, whatever the weights.
func TestRightTwiceByEnds(t *testing.T) {
	other := weighed(3, 0, 1, 7)
	isKind(t, "other weight", graph.Right(joined(weighed(3, 0, 1, -7), other)), api.Twice)
	isKind(t, "same weight", graph.Right(joined(other, other)), api.Twice)
	isKind(t, "not side by side", graph.Right(joined(other, edges(3, 1, 2), other)), api.BadArg)
}

// P401: of two things wrong at once the one that is named first.
func TestRightOrderOfKinds(t *testing.T) {
	many := make([]api.Edge, api.MaxM+1)
	for _, c := range []struct {
		what string
		g    api.Graph
		want api.Kind
	}{
		{"N below 0, too many edges", api.Graph{N: -1, E: many}, api.BadArg},
		{"N below 0, bad vertex", edges(-1, 0, 1), api.BadArg},
		{"N beyond, too many edges", api.Graph{N: api.MaxN + 1, E: many}, api.TooLarge},
		{"N beyond, bad vertex", edges(api.MaxN+1, -1, 1), api.TooLarge},
		{"too many edges, each a loop", api.Graph{N: 1, E: many}, api.TooLarge},
		{"too many edges, no vertex", api.Graph{E: many}, api.TooLarge},
		{"bad vertex, loop", edges(3, 3, 3), api.BadVertex},
		{"bad vertex, loop below 0", edges(3, -1, -1), api.BadVertex},
		{"bad vertex, weight", weighed(3, 0, 3, api.MaxW), api.BadVertex},
		{"bad vertex, turned", edges(3, 3, 0), api.BadVertex},
		{"bad vertex V, turned", edges(3, 0, -1), api.BadVertex},
		{"bad vertex, twice", joined(edges(3, 0, 1), edges(3, 0, 3), edges(3, 0, 3)), api.BadVertex},
		{"loop, weight", weighed(3, 1, 1, -api.MaxW), api.Loop},
		{"loop, below the one ahead", edges(3, 1, 2, 1, 1), api.Loop},
		{"weight, turned", weighed(3, 1, 0, api.MaxW), api.BadWeight},
		{"weight, twice", joined(edges(3, 0, 1), weighed(3, 0, 1, api.MaxW)), api.BadWeight},
		{"weight, below the one ahead", joined(edges(3, 1, 2), weighed(3, 0, 1, api.MaxW)), api.BadWeight},
		{"turned, as the one ahead", edges(3, 0, 1, 1, 0), api.BadArg},
		{"turned, below the one ahead", edges(3, 1, 2, 1, 0), api.BadArg},
	} {
		isKind(t, c.what, graph.Right(c.g), c.want)
	}
}

// P401: of two edges that are wrong the first one's kind, whatever the other's.
func TestRightFirstEdgeFirst(t *testing.T) {
	bad := []struct {
		want api.Kind
		g    api.Graph
	}{
		{api.BadVertex, edges(9, 8, 9)},
		{api.Loop, edges(9, 8, 8)},
		{api.BadWeight, weighed(9, 7, 8, api.MaxW)},
		{api.BadArg, edges(9, 8, 7)},
		{api.Twice, edges(9, 0, 2)},
		{api.BadArg, edges(9, 0, 1)},
	}
	head := edges(9, 0, 1, 0, 2)
	for _, a := range bad {
		for _, b := range bad {
			isKind(t, "first of two", graph.Right(joined(head, a.g, b.g)), a.want)
		}
	}
}

// P401: as many edges as may be, and one more.
func TestRightAtMostEdges(t *testing.T) {
	g := full(api.MaxM)
	if len(g.E) != api.MaxM {
		t.Fatalf("%d edges", len(g.E))
	}
	isKind(t, "MaxM", graph.Right(g), api.OK)
	more := full(api.MaxM + 1)
	isKind(t, "MaxM + 1", graph.Right(more), api.TooLarge)
	_, k := graph.Make(more.N, more.E)
	isKind(t, "Make of MaxM + 1", k, api.TooLarge)
	turned := slices.Clone(g.E)
	slices.Reverse(turned)
	isGraph(t, "Make of MaxM", made(t, g.N, turned), g)
}

// P401: against the definition, of graphs of few vertices with any ends, in any order.
func TestRightByDefinition(t *testing.T) {
	d := dice(401)
	seen := map[api.Kind]int{}
	for range 20000 {
		g := api.Graph{N: d.below(6) - 1}
		for range d.below(5) {
			e := api.Edge{U: d.below(5), V: d.below(6) - 1}
			if d.below(3) > 0 {
				e.V = e.U + 1
			}
			if d.below(12) == 0 {
				e.W = api.MaxW
			}
			g.E = append(g.E, e)
		}
		want := defined(g)
		seen[want]++
		isKind(t, "any ends", graph.Right(g), want)
	}
	for _, k := range []api.Kind{api.OK, api.BadArg, api.BadVertex, api.Loop, api.BadWeight, api.Twice} {
		if seen[k] == 0 {
			t.Errorf("no graph of kind %d", int(k))
		}
	}
}

// defined is what P401 says of a graph within the limits, word by word.
func defined(g api.Graph) api.Kind {
	if g.N < 0 {
		return api.BadArg
	}
	for i, e := range g.E {
		within := func(v int) bool { return 0 <= v && v <= g.N-1 }
		if !within(e.U) || !within(e.V) {
			return api.BadVertex
		}
		if e.U == e.V {
			return api.Loop
		}
		if !(-api.MaxW < e.W && e.W < api.MaxW) {
			return api.BadWeight
		}
		if e.U > e.V {
			return api.BadArg
		}
		if i > 0 {
			ahead := g.E[i-1]
			if ahead.U == e.U && ahead.V == e.V {
				return api.Twice
			}
			if e.U < ahead.U || e.U == ahead.U && e.V < ahead.V {
				return api.BadArg
			}
		}
	}
	return api.OK
}
