package planar_test

import (
	"math"
	"slices"

	"filigree/api"
)

// dice throws the same numbers in every run.
type dice uint64

func (d *dice) next() uint64 {
	*d ^= *d << 13
	*d ^= *d >> 7
	*d ^= *d << 17
	return uint64(*d)
}

func (d *dice) below(n int) int { return int(d.next() % uint64(n)) }

// order is the numbers below n in some order.
func (d *dice) order(n int) []int {
	list := make([]int, n)
	for i := range list {
		j := d.below(i + 1)
		list[i], list[j] = list[j], i
	}
	return list
}

// named is a graph whose vertices are named anew.
func (d *dice) named(g api.Graph) api.Graph {
	name := d.order(g.N)
	var ends []int
	for _, e := range g.E {
		ends = append(ends, name[e.U], name[e.V])
	}
	return sorted(g.N, ends...)
}

// longer is n and these ends, in pairs, with so many vertices put onto them one by one.
func (d *dice) longer(n, more int, ends []int) (int, []int) {
	ends = slices.Clone(ends)
	for range more {
		at := 2 * d.below(len(ends)/2)
		ends = append(ends, n, ends[at+1])
		ends[at+1] = n
		n++
	}
	return n, ends
}

// denser is these ends, in pairs, and some more edges between n vertices.
func (d *dice) denser(n, more int, ends []int) []int {
	ends = slices.Clone(ends)
	joined := map[[2]int]int{}
	for i := 0; i < len(ends); i += 2 {
		joined[[2]int{min(ends[i], ends[i+1]), max(ends[i], ends[i+1])}]++
	}
	for range more {
		u, v := d.below(n), d.below(n)
		pair := [2]int{min(u, v), max(u, v)}
		if u != v && joined[pair] == 0 {
			joined[pair]++
			ends = append(ends, u, v)
		}
	}
	return ends
}

// thinner is these ends, in pairs, of which so many of a hundred stay.
func (d *dice) thinner(stay int, ends []int) []int {
	var some []int
	for i := 0; i < len(ends); i += 2 {
		if d.below(100) < stay {
			some = append(some, ends[i], ends[i+1])
		}
	}
	return some
}

// sorted is the right graph of n vertices and these ends, in pairs, in any order and turned or not; weights are 1, 2 and so on.
func sorted(n int, ends ...int) api.Graph {
	g := edges(n, ends...)
	for i, e := range g.E {
		g.E[i].U, g.E[i].V = min(e.U, e.V), max(e.U, e.V)
	}
	slices.SortFunc(g.E, func(a, b api.Edge) int {
		if a.U != b.U {
			return a.U - b.U
		}
		return a.V - b.V
	})
	return g
}

// edges is the graph of n vertices and these ends, in pairs, just as they are told; weights are 1, 2 and so on.
func edges(n int, ends ...int) api.Graph {
	g := api.Graph{N: n}
	for i := 0; i < len(ends); i += 2 {
		g.E = append(g.E, api.Edge{U: ends[i], V: ends[i+1], W: int64(i/2 + 1)})
	}
	return g
}

// endsOf is the ends of a graph's edges, in pairs.
func endsOf(g api.Graph) []int {
	var ends []int
	for _, e := range g.E {
		ends = append(ends, e.U, e.V)
	}
	return ends
}

// moved is these vertices, each so much greater.
func moved(by int, vertices []int) []int {
	list := make([]int, len(vertices))
	for i, v := range vertices {
		list[i] = v + by
	}
	return list
}

// without is a graph without the edge at a place.
func without(g api.Graph, place int) api.Graph {
	return api.Graph{N: g.N, E: slices.Delete(slices.Clone(g.E), place, place+1)}
}

// only is a graph with the edges alone at these places.
func only(g api.Graph, in []int) api.Graph {
	h := api.Graph{N: g.N}
	for place, e := range g.E {
		if slices.Contains(in, place) {
			h.E = append(h.E, e)
		}
	}
	return h
}

// upTo is the numbers from 0 to n - 1.
func upTo(n int) []int {
	list := make([]int, n)
	for i := range list {
		list[i] = i
	}
	return list
}

// along is the ends of the way over these vertices.
func along(vertices ...int) []int {
	var ends []int
	for i := 1; i < len(vertices); i++ {
		ends = append(ends, vertices[i-1], vertices[i])
	}
	return ends
}

// round is the ends of the closed way over these vertices.
func round(vertices ...int) []int {
	return append(along(vertices...), vertices[len(vertices)-1], vertices[0])
}

// among is the ends of all edges between these vertices.
func among(vertices ...int) []int {
	var ends []int
	for i, u := range vertices {
		for _, v := range vertices[:i] {
			ends = append(ends, u, v)
		}
	}
	return ends
}

// between is the ends of all edges from the first a vertices to the b ones behind them.
func between(a, b int) []int {
	var ends []int
	for u := range a {
		for v := range b {
			ends = append(ends, u, a+v)
		}
	}
	return ends
}

// wrongs is graphs that are not right, in each of the ways there are.
func wrongs() map[string]api.Graph {
	weighed := func(w int64) api.Graph { return api.Graph{N: 3, E: []api.Edge{{U: 0, V: 1, W: w}}} }
	return map[string]api.Graph{
		"N below 0":            {N: -1},
		"least N":              {N: math.MinInt},
		"N below 0, an edge":   edges(-3, 0, 1),
		"N beyond":             {N: api.MaxN + 1},
		"N beyond, an edge":    edges(api.MaxN+1, 0, 1),
		"greatest N":           {N: math.MaxInt},
		"edges beyond":         full(api.MaxM + 1),
		"U below 0":            edges(3, -1, 1),
		"V below 0":            edges(3, 0, -1),
		"U beyond":             edges(3, 3, 1),
		"V beyond":             edges(3, 0, 1, 1, 3),
		"the least vertex":     edges(3, math.MinInt, 1),
		"the greatest vertex":  edges(3, 0, math.MaxInt),
		"no vertex at all":     edges(0, 0, 1),
		"a loop":               edges(3, 0, 1, 1, 1),
		"a loop alone":         edges(1, 0, 0),
		"weight beyond":        weighed(api.MaxW),
		"weight below":         weighed(-api.MaxW),
		"the greatest weight":  weighed(math.MaxInt64),
		"the least weight":     weighed(math.MinInt64),
		"ends turned":          edges(3, 1, 0),
		"an edge twice":        edges(3, 0, 1, 0, 1),
		"an edge twice, later": edges(3, 0, 1, 0, 2, 1, 2, 1, 2),
		"edges fall by U":      edges(3, 1, 2, 0, 1),
		"edges fall by V":      edges(3, 0, 2, 0, 1),
		"the last of many":     edges(4, 0, 1, 0, 2, 1, 2, 2, 3, 1, 3),
	}
}

// full is a graph of 4096 vertices and m edges, the first ones in order.
func full(m int) api.Graph {
	g := api.Graph{N: 4096, E: make([]api.Edge, 0, m)}
	for u := range g.N {
		for v := u + 1; v < g.N && len(g.E) < m; v++ {
			g.E = append(g.E, api.Edge{U: u, V: v, W: api.MaxW - 1})
		}
	}
	return g
}
