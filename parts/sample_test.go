package parts_test

import (
	"math"
	"slices"

	"filigree/api"
)

// dice throws the same numbers in every run.
type dice uint64

func (d *dice) next() uint64 {
	*d ^= *d << 13
	*d ^= *d >> 7
	*d ^= *d << 17
	return uint64(*d)
}

func (d *dice) below(n int) int { return int(d.next() % uint64(n)) }

// graph is a right graph of n vertices, made by its definition: each pair in order is an edge, or not.
func (d *dice) graph(n, chance int) api.Graph {
	g := api.Graph{N: n}
	for u := range n {
		for v := u + 1; v < n; v++ {
			if d.below(100) < chance {
				g.E = append(g.E, api.Edge{U: u, V: v, W: int64(d.below(2001)) - 1000})
			}
		}
	}
	return g
}

// order is the numbers below n in some order.
func (d *dice) order(n int) []int {
	list := make([]int, n)
	for i := range list {
		j := d.below(i + 1)
		list[i], list[j] = list[j], i
	}
	return list
}

// sorted is the right graph of n vertices and these ends, in pairs, in any order and turned or not; weights are 1, 2 and so on.
func sorted(n int, ends ...int) api.Graph {
	g := edges(n, ends...)
	for i, e := range g.E {
		g.E[i].U, g.E[i].V = min(e.U, e.V), max(e.U, e.V)
	}
	slices.SortFunc(g.E, func(a, b api.Edge) int {
		if a.U != b.U {
			return a.U - b.U
		}
		return a.V - b.V
	})
	return g
}

// edges is the graph of n vertices and these ends, in pairs, just as they are told; weights are 1, 2 and so on.
func edges(n int, ends ...int) api.Graph {
	g := api.Graph{N: n}
	for i := 0; i < len(ends); i += 2 {
		g.E = append(g.E, api.Edge{U: ends[i], V: ends[i+1], W: int64(i/2 + 1)})
	}
	return g
}

// along is the ends of the way over these vertices.
func along(vertices ...int) []int {
	var ends []int
	for i := 1; i < len(vertices); i++ {
		ends = append(ends, vertices[i-1], vertices[i])
	}
	return ends
}

// round is the ends of the closed way over these vertices.
func round(vertices ...int) []int {
	return append(along(vertices...), vertices[len(vertices)-1], vertices[0])
}

// among is the ends of all edges between these vertices.
func among(vertices ...int) []int {
	var ends []int
	for i, u := range vertices {
		for _, v := range vertices[:i] {
			ends = append(ends, u, v)
		}
	}
	return ends
}

// both is two lists of ends as one.
func both(a, b []int) []int { return slices.Concat(a, b) }

// upTo is the numbers from 0 to n - 1.
func upTo(n int) []int {
	list := make([]int, n)
	for i := range list {
		list[i] = i
	}
	return list
}

// samples is right graphs beyond the small ones: of few edges, of many, and such as are put together of blocks.
func samples() []api.Graph {
	d := dice(20261117)
	var list []api.Graph
	for n := 2; n < 60; n += 3 {
		for _, chance := range []int{100 / n, 150 / n, 250 / n, 50} {
			list = append(list, d.graph(n, chance))
		}
	}
	for range 150 {
		list = append(list, d.beads(3+d.below(30)))
	}
	return list
}

// beads is closed ways, full graphs and edges, each hung at a vertex that is there, or at none; vertices in any order.
func (d *dice) beads(n int) api.Graph {
	name := d.order(n)
	var ends []int
	for used := 0; used < n; {
		size := min(1+d.below(6), n-used)
		bead := name[used : used+size]
		if used > 0 && d.below(5) > 0 {
			bead = append([]int{name[d.below(used)]}, bead...)
		}
		used += size
		switch {
		case len(bead) > 2 && d.below(2) == 0:
			ends = append(ends, round(bead...)...)
		case d.below(2) == 0:
			ends = append(ends, among(bead...)...)
		default:
			ends = append(ends, along(bead...)...)
		}
	}
	return sorted(n, ends...)
}

// wrongs is graphs that are not right, in each of the ways there are.
func wrongs() map[string]api.Graph {
	weighed := func(w int64) api.Graph { return api.Graph{N: 3, E: []api.Edge{{U: 0, V: 1, W: w}}} }
	return map[string]api.Graph{
		"N below 0":            {N: -1},
		"least N":              {N: math.MinInt},
		"N below 0, an edge":   edges(-3, 0, 1),
		"N beyond":             {N: api.MaxN + 1},
		"N beyond, an edge":    edges(api.MaxN+1, 0, 1),
		"greatest N":           {N: math.MaxInt},
		"edges beyond":         full(api.MaxM + 1),
		"U below 0":            edges(3, -1, 1),
		"V below 0":            edges(3, 0, -1),
		"U beyond":             edges(3, 3, 1),
		"V beyond":             edges(3, 0, 1, 1, 3),
		"the least vertex":     edges(3, math.MinInt, 1),
		"the greatest vertex":  edges(3, 0, math.MaxInt),
		"no vertex at all":     edges(0, 0, 1),
		"a loop":               edges(3, 0, 1, 1, 1),
		"a loop alone":         edges(1, 0, 0),
		"weight beyond":        weighed(api.MaxW),
		"weight below":         weighed(-api.MaxW),
		"the greatest weight":  weighed(math.MaxInt64),
		"the least weight":     weighed(math.MinInt64),
		"ends turned":          edges(3, 1, 0),
		"an edge twice":        edges(3, 0, 1, 0, 1),
		"an edge twice, later": edges(3, 0, 1, 0, 2, 1, 2, 1, 2),
		"edges fall by U":      edges(3, 1, 2, 0, 1),
		"edges fall by V":      edges(3, 0, 2, 0, 1),
		"the last of many":     edges(4, 0, 1, 0, 2, 1, 2, 2, 3, 1, 3),
	}
}

// full is a graph of 4096 vertices and m edges, the first ones in order.
func full(m int) api.Graph {
	g := api.Graph{N: 4096, E: make([]api.Edge, 0, m)}
	for u := range g.N {
		for v := u + 1; v < g.N && len(g.E) < m; v++ {
			g.E = append(g.E, api.Edge{U: u, V: v, W: api.MaxW - 1})
		}
	}
	return g
}
