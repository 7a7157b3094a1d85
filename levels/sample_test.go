package levels_test

import (
	"cmp"
	"fmt"
	"math"
	"slices"
	"testing"

	"filigree/api"
	"filigree/graph"
)

// dice throws the same numbers in every run.
type dice uint64

func (d *dice) next() uint64 {
	*d ^= *d << 13
	*d ^= *d >> 7
	*d ^= *d << 17
	return uint64(*d)
}

func (d *dice) below(n int) int { return int(d.next() % uint64(n)) }

// order is the numbers below n in some order.
func (d *dice) order(n int) []int {
	list := make([]int, n)
	for i := range list {
		j := d.below(i + 1)
		list[i], list[j] = list[j], i
	}
	return list
}

// graph is a right graph of n vertices, made by its definition: each pair in order is an edge, or not.
func (d *dice) graph(n, chance int) api.Graph {
	g := api.Graph{N: n}
	for u := range n {
		for v := u + 1; v < n; v++ {
			if d.below(100) < chance {
				g.E = append(g.E, api.Edge{U: u, V: v, W: int64(d.below(2001)) - 1000})
			}
		}
	}
	return g
}

// named is a graph whose vertices are named anew.
func (d *dice) named(g api.Graph) api.Graph {
	name := d.order(g.N)
	var ends []int
	for _, e := range g.E {
		ends = append(ends, name[e.U], name[e.V])
	}
	return sorted(g.N, ends...)
}

// thinner is a graph of which so many of a hundred edges stay.
func (d *dice) thinner(stay int, g api.Graph) api.Graph {
	goes := func(api.Edge) bool { return d.below(100) >= stay }
	return api.Graph{N: g.N, E: slices.DeleteFunc(slices.Clone(g.E), goes)}
}

// tree is n vertices, all of which hang together without a closed way; each hangs on one of so many ahead of it.
func (d *dice) tree(n, back int) api.Graph {
	var ends []int
	for v := 1; v < n; v++ {
		ends = append(ends, v-1-d.below(min(v, back)), v)
	}
	return sorted(n, ends...)
}

// sorted is the right graph of n vertices and these ends, in pairs, in any order and turned or not; weights are 1, 2 and so on.
func sorted(n int, ends ...int) api.Graph {
	g := edges(n, ends...)
	for i, e := range g.E {
		g.E[i].U, g.E[i].V = min(e.U, e.V), max(e.U, e.V)
	}
	slices.SortFunc(g.E, func(a, b api.Edge) int { return cmp.Or(cmp.Compare(a.U, b.U), cmp.Compare(a.V, b.V)) })
	return g
}

// edges is the graph of n vertices and these ends, in pairs, just as they are told; weights are 1, 2 and so on.
func edges(n int, ends ...int) api.Graph {
	g := api.Graph{N: n}
	for i := 0; i < len(ends); i += 2 {
		g.E = append(g.E, api.Edge{U: ends[i], V: ends[i+1], W: int64(i/2 + 1)})
	}
	return g
}

// upTo is the numbers from 0 to n - 1.
func upTo(n int) []int {
	list := make([]int, n)
	for i := range list {
		list[i] = i
	}
	return list
}

// along is the ends of the way over these vertices.
func along(vertices ...int) []int {
	var ends []int
	for i := 1; i < len(vertices); i++ {
		ends = append(ends, vertices[i-1], vertices[i])
	}
	return ends
}

// round is the ends of the closed way over these vertices.
func round(vertices ...int) []int {
	return append(along(vertices...), vertices[len(vertices)-1], vertices[0])
}

// among is the ends of all edges between these vertices.
func among(vertices ...int) []int {
	var ends []int
	for i, u := range vertices {
		for _, v := range vertices[:i] {
			ends = append(ends, u, v)
		}
	}
	return ends
}

// around is the ends of the edges from one vertex to each of the others.
func around(middle int, vertices ...int) []int {
	var ends []int
	for _, v := range vertices {
		if v != middle {
			ends = append(ends, middle, v)
		}
	}
	return ends
}

// board is the ends of rows and columns of vertices, each joined to the next ones.
func board(rows, columns int) []int {
	var ends []int
	for v := range rows * columns {
		if v%columns > 0 {
			ends = append(ends, v-1, v)
		}
		if v >= columns {
			ends = append(ends, v-columns, v)
		}
	}
	return ends
}

// beside is graphs as one, the vertices of each behind those of the one ahead of it.
func beside(graphs ...api.Graph) api.Graph {
	var all api.Graph
	for _, g := range graphs {
		for _, e := range g.E {
			all.E = append(all.E, api.Edge{U: all.N + e.U, V: all.N + e.V, W: e.W})
		}
		all.N += g.N
	}
	return all
}

// smalls tells each graph of n vertices.
func smalls(n int, tell func(g api.Graph)) {
	whole := sorted(n, among(upTo(n)...)...)
	for set := range 1 << len(whole.E) {
		g := api.Graph{N: n}
		for place, e := range whole.E {
			if set>>place&1 == 1 {
				g.E = append(g.E, e)
			}
		}
		tell(g)
	}
}

// sample is a graph, and what it is.
type sample struct {
	what string
	g    api.Graph
}

// shapes is graphs of many kinds of some 2 times n vertices at most, n being at least 3.
func (d *dice) shapes(n int) []sample {
	list := []sample{
		{"no edge", api.Graph{N: n}},
		{"way", sorted(n, along(upTo(n)...)...)},
		{"ring", sorted(n, round(upTo(n)...)...)},
		{"star", sorted(n, around(0, upTo(n)...)...)},
		{"wheel", sorted(n+1, append(round(upTo(n)...), around(n, upTo(n)...)...)...)},
		{"all", sorted(n, among(upTo(n)...)...)},
		{"board", sorted(n/3*3, board(n/3, 3)...)},
		{"tree", d.tree(n, n)},
		{"long tree", d.tree(n, 3)},
		{"forest", d.thinner(80, d.tree(n, 4))},
		{"ways apart", beside(sorted(n, along(upTo(n)...)...), sorted(n/2, along(upTo(n/2)...)...), api.Graph{N: 2})},
		{"a ring, one alone and a tree", beside(sorted(n, round(upTo(n)...)...), api.Graph{N: 1}, d.tree(n/2+1, 2))},
		{"most of a board", d.thinner(80, sorted(n/3*3, board(n/3, 3)...))},
	}
	for _, chance := range []int{50 / n, 100 / n, 150 / n, 250 / n, 50, 90} {
		list = append(list, sample{fmt.Sprint(chance, " of a hundred edges"), d.graph(n, chance)})
	}
	return list
}

// samples is graphs of many kinds and sizes, as they are and with their vertices named anew.
func samples(size int) []sample {
	d := dice(20261119)
	list := []sample{{"no vertex", api.Graph{}}, {"no vertex, empty list", api.Graph{E: []api.Edge{}}}, {"one", api.Graph{N: 1}}, {"two", sorted(2, 0, 1)}}
	for n := 3; n <= size; n += 1 + n/8 {
		for _, s := range d.shapes(n) {
			what := fmt.Sprint(s.what, " of ", n)
			list = append(list, sample{what, s.g}, sample{what + ", named anew", d.named(s.g)}, sample{what + ", named anew again", d.named(s.g)})
		}
	}
	return list
}

// each tells each k and each shift that may be.
func each(tell func(k, shift int)) {
	for k := 1; k <= api.MaxK; k++ {
		for shift := range k + 1 {
			tell(k, shift)
		}
	}
}

// wrongs is graphs that are not right, in each of the ways there are.
func wrongs() map[string]api.Graph {
	weighed := func(w int64) api.Graph { return api.Graph{N: 3, E: []api.Edge{{U: 0, V: 1, W: w}}} }
	return map[string]api.Graph{
		"N below 0":            {N: -1},
		"least N":              {N: math.MinInt},
		"N below 0, an edge":   edges(-3, 0, 1),
		"N beyond":             {N: api.MaxN + 1},
		"N beyond, an edge":    edges(api.MaxN+1, 0, 1),
		"greatest N":           {N: math.MaxInt},
		"edges beyond":         full(api.MaxM + 1),
		"U below 0":            edges(3, -1, 1),
		"V below 0":            edges(3, 0, -1),
		"U beyond":             edges(3, 3, 1),
		"V beyond":             edges(3, 0, 1, 1, 3),
		"the least vertex":     edges(3, math.MinInt, 1),
		"the greatest vertex":  edges(3, 0, math.MaxInt),
		"no vertex at all":     edges(0, 0, 1),
		"a loop":               edges(3, 0, 1, 1, 1),
		"a loop alone":         edges(1, 0, 0),
		"weight beyond":        weighed(api.MaxW),
		"weight below":         weighed(-api.MaxW),
		"the greatest weight":  weighed(math.MaxInt64),
		"the least weight":     weighed(math.MinInt64),
		"ends turned":          edges(3, 1, 0),
		"an edge twice":        edges(3, 0, 1, 0, 1),
		"an edge twice, later": edges(3, 0, 1, 0, 2, 1, 2, 1, 2),
		"edges fall by U":      edges(3, 1, 2, 0, 1),
		"edges fall by V":      edges(3, 0, 2, 0, 1),
		"the last of many":     edges(4, 0, 1, 0, 2, 1, 2, 2, 3, 1, 3),
	}
}

// full is a graph of 4096 vertices and m edges, the first ones in order.
func full(m int) api.Graph {
	g := api.Graph{N: 4096, E: make([]api.Edge, 0, m)}
	for u := range g.N {
		for v := u + 1; v < g.N && len(g.E) < m; v++ {
			g.E = append(g.E, api.Edge{U: u, V: v, W: api.MaxW - 1})
		}
	}
	return g
}

// The samples are right graphs, and those that are meant not to be so are not.
func TestSamples(t *testing.T) {
	for _, s := range samples(40) {
		if k := graph.Right(s.g); k != api.OK {
			t.Fatalf("%s: %v: kind %d", s.what, s.g, int(k))
		}
	}
	for what, g := range wrongs() {
		if graph.Right(g) == api.OK {
			t.Errorf("%s: it is right", what)
		}
	}
}
