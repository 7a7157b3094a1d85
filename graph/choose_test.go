package graph_test

import (
	"math"
	"slices"
	"testing"

	"filigree/api"
	"filigree/graph"
)

// P404: the edges both of whose ends are kept, whatever keep's length.
func TestOnly(t *testing.T) {
	g := edges(5, 0, 1, 0, 4, 1, 2, 1, 3, 2, 3, 3, 4)
	for _, c := range []struct {
		what   string
		keep   []bool
		places []int
	}{
		{"none told", nil, nil},
		{"empty", []bool{}, nil},
		{"one", []bool{false, true}, nil},
		{"two", []bool{true, true}, []int{0}},
		{"two, beyond them not", []bool{false, true, true}, []int{2}},
		{"some", []bool{false, true, true, true, false}, []int{2, 3, 4}},
		{"all but the last", []bool{true, true, true, true}, []int{0, 2, 3, 4}},
		{"all", []bool{true, true, true, true, true}, []int{0, 1, 2, 3, 4, 5}},
		{"longer", []bool{true, false, false, true, true, true, true, true}, []int{1, 5}},
		{"no one in it", []bool{false, false, false, false, false, true, true}, nil},
	} {
		isGraph(t, c.what, graph.Only(g, c.keep), at(g, c.places))
	}
}

// at is g's vertices and its edges at these places.
func at(g api.Graph, places []int) api.Graph {
	out := api.Graph{N: g.N}
	for _, place := range places {
		out.E = append(out.E, g.E[place])
	}
	return out
}

// P404: against the definition, with keep shorter and longer than N.
func TestOnlyByDefinition(t *testing.T) {
	d := dice(404)
	for _, g := range samples() {
		for _, length := range []int{0, min(g.N, 12) / 2, min(g.N, 12), min(g.N, 12) + 3} {
			keep := make([]bool, length)
			for v := range keep {
				keep[v] = d.below(3) > 0
			}
			want := api.Graph{N: g.N}
			for _, e := range g.E {
				if e.U < length && e.V < length && keep[e.U] && keep[e.V] {
					want.E = append(want.E, e)
				}
			}
			isGraph(t, "Only", graph.Only(g, keep), want)
		}
		isGraph(t, "all", graph.Only(g, slices.Repeat([]bool{true}, g.N)), g)
	}
}

// P404: without the edges at these places; others mean nothing, nor does one that is there twice.
func TestLess(t *testing.T) {
	g := edges(5, 0, 1, 0, 4, 1, 2, 1, 3, 2, 3, 3, 4)
	for _, c := range []struct {
		what         string
		gone, places []int
	}{
		{"none", nil, []int{0, 1, 2, 3, 4, 5}},
		{"empty", []int{}, []int{0, 1, 2, 3, 4, 5}},
		{"the first", []int{0}, []int{1, 2, 3, 4, 5}},
		{"the last", []int{5}, []int{0, 1, 2, 3, 4}},
		{"falling", []int{4, 2, 0}, []int{1, 3, 5}},
		{"twice", []int{3, 1, 3, 3, 1}, []int{0, 2, 4, 5}},
		{"all", []int{5, 3, 1, 0, 2, 4}, nil},
		{"no places", []int{-1, 6, math.MinInt, math.MaxInt, 7}, []int{0, 1, 2, 3, 4, 5}},
		{"some that are none", []int{6, 2, -1, math.MinInt, math.MaxInt}, []int{0, 1, 3, 4, 5}},
	} {
		isGraph(t, c.what, graph.Less(g, c.gone), at(g, c.places))
	}
	for _, n := range []int{0, 1, api.MaxN} {
		isGraph(t, "no edge", graph.Less(api.Graph{N: n}, []int{0, -1, 1}), api.Graph{N: n})
	}
}

// P404: against the definition.
func TestLessByDefinition(t *testing.T) {
	d := dice(4041)
	for _, g := range samples() {
		var gone []int
		for range d.below(len(g.E) + 3) {
			gone = append(gone, d.below(len(g.E)+4)-2)
		}
		want := api.Graph{N: g.N}
		for place, e := range g.E {
			if !slices.Contains(gone, place) {
				want.E = append(want.E, e)
			}
		}
		got := graph.Less(g, gone)
		isGraph(t, "Less", got, want)
		isKind(t, "Less", graph.Right(got), api.OK)
	}
}

// P404: of a graph that is not right the zero graph.
func TestChooseOfWrong(t *testing.T) {
	for what, g := range wrongs() {
		for name, got := range map[string]api.Graph{
			"Only": graph.Only(g, []bool{true, true, true, true}),
			"Less": graph.Less(g, []int{0, 1}),
			"none": graph.Less(g, nil),
		} {
			if got.N != 0 || len(got.E) != 0 {
				t.Errorf("%s: %s: %v", what, name, got)
			}
		}
	}
}

// P404: alike in N and all edges, their order and weights too; a list without an edge is nil or empty.
func TestSame(t *testing.T) {
	for i, a := range samples() {
		for j, b := range samples() {
			want := a.N == b.N && len(a.E) == len(b.E)
			for e := range min(len(a.E), len(b.E)) {
				want = want && a.E[e] == b.E[e]
			}
			if got := graph.Same(a, b); got != want || i == j && !got {
				t.Errorf("samples %d and %d: %v", i, j, got)
			}
		}
	}
	g := edges(4, 0, 1, 1, 2, 2, 3)
	for what, other := range map[string]api.Graph{
		"other N":      {N: 5, E: g.E},
		"other weight": joined(edges(4, 0, 1, 1, 2), weighed(4, 2, 3, 9)),
		"other V":      joined(edges(4, 0, 1, 1, 2), weighed(4, 1, 3, 3)),
		"other U":      joined(edges(4, 0, 1, 1, 3), weighed(4, 2, 3, 3)),
		"one less":     edges(4, 0, 1, 1, 2),
		"one more":     edges(4, 0, 1, 1, 2, 2, 3, 3, 4),
		"none":         {N: 4},
	} {
		if graph.Same(g, other) || graph.Same(other, g) {
			t.Errorf("%s: the same", what)
		}
	}
	if !graph.Same(api.Graph{N: 3}, api.Graph{N: 3, E: []api.Edge{}}) {
		t.Errorf("nil and empty: not the same")
	}
	for what, g := range wrongs() {
		if !graph.Same(g, joined(g)) {
			t.Errorf("%s: not the same as itself", what)
		}
	}
}

// P405: the sum of the weights at these places, in any order.
func TestWeight(t *testing.T) {
	g := api.Graph{N: 4, E: []api.Edge{{U: 0, V: 1, W: 5}, {U: 0, V: 2, W: -7}, {U: 1, V: 2, W: api.MaxW - 1}, {U: 2, V: 3, W: 1 - api.MaxW}}}
	for _, c := range []struct {
		in   []int
		want int64
	}{
		{nil, 0}, {[]int{}, 0}, {[]int{0}, 5}, {[]int{1}, -7}, {[]int{1, 0}, -2}, {[]int{2}, api.MaxW - 1},
		{[]int{3, 2}, 0}, {[]int{3, 1}, -6 - api.MaxW}, {[]int{2, 0}, api.MaxW + 4}, {[]int{3, 0, 2, 1}, -2},
	} {
		if got, k := graph.Weight(g, c.in); got != c.want || k != api.OK {
			t.Errorf("Weight at %v: %d, kind %d, not %d", c.in, got, int(k), c.want)
		}
	}
	for _, n := range []int{0, 1, api.MaxN} {
		if got, k := graph.Weight(api.Graph{N: n}, nil); got != 0 || k != api.OK {
			t.Errorf("no edge: %d, kind %d", got, int(k))
		}
	}
}

// P405: sums far beyond one weight's range, on both sides of 0.
func TestWeightOfAll(t *testing.T) {
	g := full(api.MaxM)
	in := make([]int, len(g.E))
	for i := range in {
		in[i] = len(in) - 1 - i
	}
	for _, w := range []int64{api.MaxW - 1, 1 - api.MaxW} {
		for i := range g.E {
			g.E[i].W = w
		}
		if got, k := graph.Weight(g, in); got != w*api.MaxM || k != api.OK {
			t.Errorf("all of %d: %d, kind %d", w, got, int(k))
		}
	}
}

// P405: places that are none, places that are there twice, graphs that are not right.
func TestWeightOfWrong(t *testing.T) {
	g := edges(4, 0, 1, 0, 2, 1, 2)
	for _, in := range [][]int{
		{-1}, {3}, {math.MinInt}, {math.MaxInt}, {0, 3}, {3, 0}, {0, 1, 2, -1},
		{0, 0}, {2, 2}, {0, 1, 0}, {0, 1, 2, 2}, {1, 0, 2, 1}, {0, 0, 3},
	} {
		if got, k := graph.Weight(g, in); got != 0 || k != api.BadArg {
			t.Errorf("Weight at %v: %d, kind %d", in, got, int(k))
		}
	}
	if got, k := graph.Weight(api.Graph{N: 2}, []int{0}); got != 0 || k != api.BadArg {
		t.Errorf("place 0 of no edge: %d, kind %d", got, int(k))
	}
	for what, g := range wrongs() {
		for _, in := range [][]int{nil, {0}, {-1}} {
			if got, k := graph.Weight(g, in); got != 0 || k != api.BadArg {
				t.Errorf("%s: Weight at %v: %d, kind %d", what, in, got, int(k))
			}
		}
	}
}
