package colour_test

import (
	"math"
	"slices"

	"filigree/api"
)

// dice throws the same numbers in every run.
type dice uint64

func (d *dice) next() uint64 {
	*d ^= *d << 13
	*d ^= *d >> 7
	*d ^= *d << 17
	return uint64(*d)
}

func (d *dice) below(n int) int { return int(d.next() % uint64(n)) }

// order is the numbers below n in some order.
func (d *dice) order(n int) []int {
	list := make([]int, n)
	for i := range list {
		j := d.below(i + 1)
		list[i], list[j] = list[j], i
	}
	return list
}

// graph is a graph of n vertices, with so many of a hundred edges that there may be.
func (d *dice) graph(n, share int) api.Graph {
	var ends []int
	for u := range n {
		for v := range u {
			if d.below(100) < share {
				ends = append(ends, v, u)
			}
		}
	}
	return sorted(n, ends...)
}

// turned is the same system, each list begun anywhere.
func (d *dice) turned(r [][]int) [][]int {
	lists := make([][]int, len(r))
	for v, list := range r {
		if len(list) > 0 {
			at := d.below(len(list))
			lists[v] = slices.Concat(list[at:], list[:at])
		}
	}
	return lists
}

// named is a system whose vertices are named anew.
func (d *dice) named(r [][]int) [][]int {
	name := d.order(len(r))
	lists := make([][]int, len(r))
	for v, list := range r {
		for _, u := range list {
			lists[name[v]] = append(lists[name[v]], name[u])
		}
	}
	return lists
}

// thinner is a system of which so many of a hundred edges stay: what was in the plane is so still.
func (d *dice) thinner(stay int, r [][]int) [][]int {
	gone := map[[2]int]int{}
	for v, list := range r {
		for _, u := range list {
			if v < u && d.below(100) >= stay {
				gone[[2]int{v, u}]++
			}
		}
	}
	lists := make([][]int, len(r))
	for v, list := range r {
		for _, u := range list {
			if gone[[2]int{min(u, v), max(u, v)}] == 0 {
				lists[v] = append(lists[v], u)
			}
		}
	}
	return lists
}

// sorted is the right graph of n vertices and these ends, in pairs, in any order and turned or not; weights are 1, 2 and so on.
func sorted(n int, ends ...int) api.Graph {
	g := edges(n, ends...)
	for i, e := range g.E {
		g.E[i].U, g.E[i].V = min(e.U, e.V), max(e.U, e.V)
	}
	slices.SortFunc(g.E, func(a, b api.Edge) int {
		if a.U != b.U {
			return a.U - b.U
		}
		return a.V - b.V
	})
	return g
}

// edges is the graph of n vertices and these ends, in pairs, just as they are told; weights are 1, 2 and so on.
func edges(n int, ends ...int) api.Graph {
	g := api.Graph{N: n}
	for i := 0; i < len(ends); i += 2 {
		g.E = append(g.E, api.Edge{U: ends[i], V: ends[i+1], W: int64(i/2 + 1)})
	}
	return g
}

// of is the graph of a system.
func of(r [][]int) api.Graph {
	var ends []int
	for v, list := range r {
		for _, u := range list {
			if v < u {
				ends = append(ends, v, u)
			}
		}
	}
	return sorted(len(r), ends...)
}

// rising is the system whose lists rise.
func rising(g api.Graph) [][]int {
	r := make([][]int, g.N)
	for _, e := range g.E {
		r[e.U] = append(r[e.U], e.V)
		r[e.V] = append(r[e.V], e.U)
	}
	for _, list := range r {
		slices.Sort(list)
	}
	return r
}

// among is the ends of all edges between n vertices.
func among(n int) []int {
	var ends []int
	for u := range n {
		for v := range u {
			ends = append(ends, u, v)
		}
	}
	return ends
}

// between is the ends of all edges from the first a vertices to the b ones behind them.
func between(a, b int) []int {
	var ends []int
	for u := range a {
		for v := range b {
			ends = append(ends, u, a+v)
		}
	}
	return ends
}

// upTo is the numbers from 0 to n - 1.
func upTo(n int) []int {
	list := make([]int, n)
	for i := range list {
		list[i] = i
	}
	return list
}

// falling is the numbers from n - 1 to 0.
func falling(n int) []int {
	list := upTo(n)
	slices.Reverse(list)
	return list
}

// wrongs is graphs that are not right, in each of the ways there are.
func wrongs() map[string]api.Graph {
	heavy := func(w int64) api.Graph { return api.Graph{N: 3, E: []api.Edge{{U: 0, V: 1, W: w}}} }
	return map[string]api.Graph{
		"N below 0":            {N: -1},
		"least N":              {N: math.MinInt},
		"N below 0, an edge":   edges(-3, 0, 1),
		"N beyond":             {N: api.MaxN + 1},
		"N beyond, an edge":    edges(api.MaxN+1, 0, 1),
		"greatest N":           {N: math.MaxInt},
		"edges beyond":         full(api.MaxM + 1),
		"U below 0":            edges(3, -1, 1),
		"V below 0":            edges(3, 0, -1),
		"U beyond":             edges(3, 3, 1),
		"V beyond":             edges(3, 0, 1, 1, 3),
		"the least vertex":     edges(3, math.MinInt, 1),
		"the greatest vertex":  edges(3, 0, math.MaxInt),
		"no vertex at all":     edges(0, 0, 1),
		"a loop":               edges(3, 0, 1, 1, 1),
		"a loop alone":         edges(1, 0, 0),
		"weight beyond":        heavy(api.MaxW),
		"weight below":         heavy(-api.MaxW),
		"the greatest weight":  heavy(math.MaxInt64),
		"the least weight":     heavy(math.MinInt64),
		"ends turned":          edges(3, 1, 0),
		"an edge twice":        edges(3, 0, 1, 0, 1),
		"an edge twice, later": edges(3, 0, 1, 0, 2, 1, 2, 1, 2),
		"edges fall by U":      edges(3, 1, 2, 0, 1),
		"edges fall by V":      edges(3, 0, 2, 0, 1),
		"the last of many":     edges(4, 0, 1, 0, 2, 1, 2, 2, 3, 1, 3),
	}
}

// full is a graph of 4096 vertices and m edges, the first ones in order.
func full(m int) api.Graph {
	g := api.Graph{N: 4096, E: make([]api.Edge, 0, m)}
	for u := range g.N {
		for v := u + 1; v < g.N && len(g.E) < m; v++ {
			g.E = append(g.E, api.Edge{U: u, V: v, W: api.MaxW - 1})
		}
	}
	return g
}
