package colour_test

import (
	"math"
	"slices"
	"testing"

	"filigree/api"
	"filigree/colour"
)

// P1103: colours that are known.
func TestGreedy(t *testing.T) {
	k4 := of(wheel(4))
	way := sorted(4, 0, 1, 1, 2, 2, 3)
	crown := sorted(6, 0, 3, 0, 5, 1, 2, 1, 5, 2, 4, 3, 4)
	for _, c := range []struct {
		what  string
		g     api.Graph
		order []int
		want  []int
	}{
		{"no vertex", api.Graph{}, nil, nil},
		{"no vertex, an empty order", api.Graph{E: []api.Edge{}}, []int{}, nil},
		{"a vertex alone", api.Graph{N: 1}, []int{0}, []int{0}},
		{"no edge", api.Graph{N: 3}, []int{2, 0, 1}, []int{0, 0, 0}},
		{"one edge", sorted(2, 0, 1), []int{0, 1}, []int{0, 1}},
		{"one edge, falling", sorted(2, 0, 1), []int{1, 0}, []int{1, 0}},
		{"a triangle", of(ring(3)), []int{1, 2, 0}, []int{2, 0, 1}},
		{"K4", k4, []int{3, 1, 0, 2}, []int{2, 1, 3, 0}},
		{"a way, rising", way, []int{0, 1, 2, 3}, []int{0, 1, 0, 1}},
		{"a way, its ends first", way, []int{0, 3, 1, 2}, []int{0, 1, 2, 0}},
		{"a ring, rising", crown, []int{0, 1, 2, 3, 4, 5}, []int{0, 0, 1, 1, 0, 1}},
		{"a ring, those that are opposite first", crown, []int{0, 2, 1, 3, 4, 5}, []int{0, 1, 0, 1, 2, 2}},
		{"a star, its middle last", sorted(4, 0, 1, 0, 2, 0, 3), []int{3, 2, 1, 0}, []int{1, 0, 0, 0}},
		{"a star, its middle first", sorted(4, 0, 1, 0, 2, 0, 3), []int{0, 1, 2, 3}, []int{0, 1, 1, 1}},
		{"beside vertices alone", sorted(5, 1, 3), []int{4, 3, 2, 1, 0}, []int{0, 1, 0, 0, 0}},
	} {
		got, k := colour.Greedy(c.g, c.order)
		if k != api.OK || !slices.Equal(got, c.want) {
			t.Errorf("%s: %v, kind %d, not %v", c.what, got, int(k), c.want)
		}
	}
}

// P1103, P1105: rising, falling, and in many other orders.
func TestGreedyOrders(t *testing.T) {
	d := dice(1107)
	inOrders := func(what string, g api.Graph) {
		isGreedy(t, what+", rising", g, upTo(g.N))
		isGreedy(t, what+", falling", g, falling(g.N))
		for range 4 {
			isGreedy(t, what, g, d.order(g.N))
		}
	}
	for _, s := range inPlane() {
		if s.g.N < 80 {
			inOrders(s.what, s.g)
		}
	}
	for n := range 40 {
		for _, share := range []int{0, 5, 20, 50, 80, 100} {
			inOrders("any graph", d.graph(n, share))
		}
		inOrders("all joined", sorted(n, among(n)...))
		inOrders("two sides", sorted(2*n, between(n, n)...))
	}
}

// P1103: it may need many more colours than there must be: two sides, each vertex joined to all but one of the other side.
func TestGreedyNeedsMany(t *testing.T) {
	const n = 30
	var ends, pairs, sides []int
	for i := range n {
		for j := range n {
			if i != j {
				ends = append(ends, i, n+j)
			}
		}
		pairs = append(pairs, i, n+i)
	}
	sides = upTo(2 * n)
	g := sorted(2*n, ends...)
	isGreedy(t, "side after side", g, sides)
	isGreedy(t, "pair after pair", g, pairs)
	few, _ := colour.Greedy(g, sides)
	many, _ := colour.Greedy(g, pairs)
	if colour.Used(few) != 2 || colour.Used(many) != n {
		t.Errorf("%d and %d colours", colour.Used(few), colour.Used(many))
	}
}

// isNoOrder fails the test unless Greedy answers BadArg, and nothing else.
func isNoOrder(t *testing.T, what string, g api.Graph, order []int) {
	t.Helper()
	if c, k := colour.Greedy(g, order); len(c) > 0 || k != api.BadArg {
		t.Errorf("%s: %d colours, kind %d", what, len(c), int(k))
	}
}

// P1103: orders that have not each vertex once.
func TestGreedyWrongOrders(t *testing.T) {
	triangle := of(ring(3))
	for what, order := range map[string][]int{
		"none":                       nil,
		"empty":                      {},
		"too short":                  {0, 1},
		"too long, one twice":        {0, 1, 2, 0},
		"too long, one beyond":       {0, 1, 2, 3},
		"too long, one below 0":      {0, 1, 2, -1},
		"one twice, another lacks":   {0, 1, 1},
		"one twice, at first":        {2, 2, 0},
		"one three times":            {1, 1, 1},
		"one below 0":                {0, -1, 2},
		"one beyond":                 {0, 1, 3},
		"the least number":           {math.MinInt, 1, 2},
		"the greatest number":        {0, 1, math.MaxInt},
		"many":                       make([]int, 100000),
		"far more than there may be": make([]int, api.MaxN+1),
	} {
		isNoOrder(t, what, triangle, order)
	}
	isNoOrder(t, "a vertex where there is none", api.Graph{}, []int{0})
	isNoOrder(t, "no order of a vertex alone", api.Graph{N: 1}, nil)
	isNoOrder(t, "another order of a vertex alone", api.Graph{N: 1}, []int{1})
}

// P1103: right orders that are spoilt at one place.
func TestGreedySpoiltOrders(t *testing.T) {
	d := dice(1108)
	for n := 1; n < 40; n++ {
		g := d.graph(n, 30)
		order := d.order(n)
		isNoOrder(t, "one more", g, append(slices.Clone(order), d.below(n)))
		for i := range order {
			isNoOrder(t, "one less", g, slices.Delete(slices.Clone(order), i, i+1))
			for _, wrong := range []int{-1, n, order[(i+1)%n], math.MinInt, math.MaxInt} {
				spoilt := slices.Clone(order)
				spoilt[i] = wrong
				if wrong != order[i] {
					isNoOrder(t, "spoilt", g, spoilt)
				}
			}
		}
	}
}

// P1103: graphs that are not right, whatever the order is.
func TestGreedyWrongGraphs(t *testing.T) {
	for what, g := range wrongs() {
		for _, order := range [][]int{nil, {}, {0}, {0, 1}, {0, 1, 2}, {3, 2, 1, 0}, {0, 0, 0}, upTo(4096)} {
			isNoOrder(t, what, g, order)
		}
	}
	isNoOrder(t, "N beyond, each once", api.Graph{N: api.MaxN + 1}, upTo(api.MaxN+1))
}
