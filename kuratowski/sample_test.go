package kuratowski_test

import (
	"math"
	"slices"

	"filigree/api"
)

// dice throws the same numbers in every run.
type dice uint64

func (d *dice) next() uint64 {
	*d ^= *d << 13
	*d ^= *d >> 7
	*d ^= *d << 17
	return uint64(*d)
}

func (d *dice) below(n int) int { return int(d.next() % uint64(n)) }

// order is the numbers below n in some order.
func (d *dice) order(n int) []int {
	list := make([]int, n)
	for i := range list {
		j := d.below(i + 1)
		list[i], list[j] = list[j], i
	}
	return list
}

// mixed is a list's numbers in some order.
func (d *dice) mixed(list []int) []int {
	other := make([]int, len(list))
	for i, at := range d.order(len(list)) {
		other[i] = list[at]
	}
	return other
}

// sample is a graph and places of some of its edges.
type sample struct {
	g  api.Graph
	in []int
}

// drawn is a sample of these ends, in pairs, with vertices put onto them one by one, vertices and edges beside them, and
// all vertices named anew.
func (d *dice) drawn(n, longer, beside int, ends []int) sample {
	ends = slices.Clone(ends)
	for range longer {
		at := 2 * d.below(len(ends)/2)
		ends = append(ends, n, ends[at+1])
		ends[at+1] = n
		n++
	}
	n += beside
	name := d.order(n)
	for i, v := range ends {
		ends[i] = name[v]
	}
	return hidden(d, n, beside, ends)
}

// hidden is a sample of these ends in a graph that has some more edges than them.
func hidden(d *dice, n, more int, ends []int) sample {
	all := slices.Clone(ends)
	for range more {
		u, v := d.below(n), d.below(n)
		if u != v && !joins(all, u, v) {
			all = append(all, u, v)
		}
	}
	g := sorted(n, all...)
	return sample{g, d.mixed(places(g, ends...))}
}

// joins tells whether two are the ends of a pair of these.
func joins(ends []int, u, v int) bool {
	for i := 0; i < len(ends); i += 2 {
		if min(ends[i], ends[i+1]) == min(u, v) && max(ends[i], ends[i+1]) == max(u, v) {
			return true
		}
	}
	return false
}

// places is the places of the edges of these ends, in pairs.
func places(g api.Graph, ends ...int) []int {
	var list []int
	for i := 0; i < len(ends); i += 2 {
		u, v := min(ends[i], ends[i+1]), max(ends[i], ends[i+1])
		list = append(list, slices.IndexFunc(g.E, func(e api.Edge) bool { return e.U == u && e.V == v }))
	}
	return list
}

// sorted is the right graph of n vertices and these ends, in pairs, in any order and turned or not; weights are 1, 2 and so on.
func sorted(n int, ends ...int) api.Graph {
	g := edges(n, ends...)
	for i, e := range g.E {
		g.E[i].U, g.E[i].V = min(e.U, e.V), max(e.U, e.V)
	}
	slices.SortFunc(g.E, func(a, b api.Edge) int {
		if a.U != b.U {
			return a.U - b.U
		}
		return a.V - b.V
	})
	return g
}

// edges is the graph of n vertices and these ends, in pairs, just as they are told; weights are 1, 2 and so on.
func edges(n int, ends ...int) api.Graph {
	g := api.Graph{N: n}
	for i := 0; i < len(ends); i += 2 {
		g.E = append(g.E, api.Edge{U: ends[i], V: ends[i+1], W: int64(i/2 + 1)})
	}
	return g
}

// along is the ends of the way over these vertices.
func along(vertices ...int) []int {
	var ends []int
	for i := 1; i < len(vertices); i++ {
		ends = append(ends, vertices[i-1], vertices[i])
	}
	return ends
}

// round is the ends of the closed way over these vertices.
func round(vertices ...int) []int {
	return append(along(vertices...), vertices[len(vertices)-1], vertices[0])
}

// among is the ends of all edges between these vertices.
func among(vertices ...int) []int {
	var ends []int
	for i, u := range vertices {
		for _, v := range vertices[:i] {
			ends = append(ends, u, v)
		}
	}
	return ends
}

// between is the ends of all edges from the first a vertices to the b ones behind them.
func between(a, b int) []int {
	var ends []int
	for u := range a {
		for v := range b {
			ends = append(ends, u, a+v)
		}
	}
	return ends
}

// petersen is the ends of the graph of Petersen: ten vertices of degree 3.
func petersen() []int {
	return slices.Concat(round(0, 1, 2, 3, 4), round(5, 7, 9, 6, 8), []int{0, 5, 1, 6, 2, 7, 3, 8, 4, 9})
}

// doubled is the ends of a closed way of n corners, of whose steps each, or each other one, is there twice: beside the
// step there is one over a vertex of its own.
func doubled(n, each int) []int {
	ends := round(upTo(n)...)
	for v := 0; v < n; v += each {
		ends = append(ends, along(v, n+v/each, (v+1)%n)...)
	}
	return ends
}

// prism is the ends of two triangles whose corners are joined.
func prism() []int {
	return slices.Concat(round(0, 1, 2), round(3, 4, 5), []int{0, 3, 1, 4, 2, 5})
}

// upTo is the numbers from 0 to n - 1.
func upTo(n int) []int {
	list := make([]int, n)
	for i := range list {
		list[i] = i
	}
	return list
}

// witnesses is subdivisions of K5 and of K3,3, of few edges and of many, alone and among other edges, by their classes.
func witnesses() map[int][]sample {
	d := dice(20261119)
	lists := map[int][]sample{}
	for longer := range 12 {
		for beside := range 4 {
			lists[5] = append(lists[5], d.drawn(5, longer*longer/3, beside*beside*3, among(upTo(5)...)))
			lists[33] = append(lists[33], d.drawn(6, longer*longer/3, beside*beside*3, between(3, 3)))
		}
	}
	return lists
}

// others is edges that are no witness, but have ways.
func others() []sample {
	d := dice(20261120)
	var list []sample
	for longer := range 8 {
		for beside := range 3 {
			add := func(n int, ends []int) { list = append(list, d.drawn(n, longer*longer/3, beside*beside*5, ends)) }
			add(6, prism())
			add(10, doubled(5, 1))
			add(9, doubled(6, 2))
			add(4, among(0, 1, 2, 3))
			add(6, among(upTo(6)...))
			add(6, among(upTo(6)...)[2:])
			add(7, between(3, 4))
			add(10, petersen())
			add(5, slices.Concat(round(0, 1, 2), round(2, 3, 4)))
			add(8, slices.Concat(round(0, 1, 2), along(2, 3, 4, 5), round(5, 6, 7)))
			add(5, among(upTo(5)...)[2:])
			add(6, between(3, 3)[2:])
		}
	}
	return list
}

// all is the witnesses and the others.
func all() []sample {
	lists := witnesses()
	return slices.Concat(lists[5], lists[33], others())
}

// wrongs is graphs that are not right, in each of the ways there are.
func wrongs() map[string]api.Graph {
	weighed := func(w int64) api.Graph { return api.Graph{N: 3, E: []api.Edge{{U: 0, V: 1, W: w}}} }
	return map[string]api.Graph{
		"N below 0":            {N: -1},
		"least N":              {N: math.MinInt},
		"N below 0, an edge":   edges(-3, 0, 1),
		"N beyond":             {N: api.MaxN + 1},
		"N beyond, an edge":    edges(api.MaxN+1, 0, 1),
		"greatest N":           {N: math.MaxInt},
		"edges beyond":         full(api.MaxM + 1),
		"U below 0":            edges(3, -1, 1),
		"V below 0":            edges(3, 0, -1),
		"U beyond":             edges(3, 3, 1),
		"V beyond":             edges(3, 0, 1, 1, 3),
		"the least vertex":     edges(3, math.MinInt, 1),
		"the greatest vertex":  edges(3, 0, math.MaxInt),
		"no vertex at all":     edges(0, 0, 1),
		"a loop":               edges(3, 0, 1, 1, 1),
		"a loop alone":         edges(1, 0, 0),
		"weight beyond":        weighed(api.MaxW),
		"weight below":         weighed(-api.MaxW),
		"the greatest weight":  weighed(math.MaxInt64),
		"the least weight":     weighed(math.MinInt64),
		"ends turned":          edges(3, 1, 0),
		"an edge twice":        edges(3, 0, 1, 0, 1),
		"an edge twice, later": edges(3, 0, 1, 0, 2, 1, 2, 1, 2),
		"edges fall by U":      edges(3, 1, 2, 0, 1),
		"edges fall by V":      edges(3, 0, 2, 0, 1),
		"the last of many":     edges(4, 0, 1, 0, 2, 1, 2, 2, 3, 1, 3),
	}
}

// full is a graph of 4096 vertices and m edges, the first ones in order.
func full(m int) api.Graph {
	g := api.Graph{N: 4096, E: make([]api.Edge, 0, m)}
	for u := range g.N {
		for v := u + 1; v < g.N && len(g.E) < m; v++ {
			g.E = append(g.E, api.Edge{U: u, V: v, W: api.MaxW - 1})
		}
	}
	return g
}
