package rotation_test

import (
	"math"
	"slices"

	"filigree/api"
)

// dice throws the same numbers in every run.
type dice uint64

func (d *dice) next() uint64 {
	*d ^= *d << 13
	*d ^= *d >> 7
	*d ^= *d << 17
	return uint64(*d)
}

func (d *dice) below(n int) int { return int(d.next() % uint64(n)) }

// graph is a right graph of n vertices, made by its definition: each pair in order is an edge, or not.
func (d *dice) graph(n, chance int) api.Graph {
	g := api.Graph{N: n}
	for u := range n {
		for v := u + 1; v < n; v++ {
			if d.below(100) < chance {
				g.E = append(g.E, api.Edge{U: u, V: v, W: int64(d.below(2001)) - 1000})
			}
		}
	}
	return g
}

// order is the numbers below n in some order.
func (d *dice) order(n int) []int {
	list := make([]int, n)
	for i := range list {
		j := d.below(i + 1)
		list[i], list[j] = list[j], i
	}
	return list
}

// system is some rotation system of a graph.
func (d *dice) system(g api.Graph) [][]int {
	r := rising(g)
	for v, list := range r {
		mixed := make([]int, len(list))
		for i, at := range d.order(len(list)) {
			mixed[i] = list[at]
		}
		r[v] = mixed
	}
	return r
}

// turned is the same system, each list begun anywhere.
func (d *dice) turned(r [][]int) [][]int {
	lists := make([][]int, len(r))
	for v, list := range r {
		if len(list) > 0 {
			at := d.below(len(list))
			lists[v] = slices.Concat(list[at:], list[:at])
		}
	}
	return lists
}

// forest is a right graph of n vertices without a closed way; vertices in any order.
func (d *dice) forest(n int) api.Graph {
	name := d.order(n)
	var ends []int
	for i := 1; i < n; i++ {
		if d.below(6) > 0 {
			ends = append(ends, name[i], name[d.below(i)])
		}
	}
	return sorted(n, ends...)
}

// rising is the system whose lists rise.
func rising(g api.Graph) [][]int {
	r := make([][]int, g.N)
	for _, e := range g.E {
		r[e.U] = append(r[e.U], e.V)
		r[e.V] = append(r[e.V], e.U)
	}
	for _, list := range r {
		slices.Sort(list)
	}
	return r
}

// sorted is the right graph of n vertices and these ends, in pairs, in any order and turned or not; weights are 1, 2 and so on.
func sorted(n int, ends ...int) api.Graph {
	g := edges(n, ends...)
	for i, e := range g.E {
		g.E[i].U, g.E[i].V = min(e.U, e.V), max(e.U, e.V)
	}
	slices.SortFunc(g.E, func(a, b api.Edge) int {
		if a.U != b.U {
			return a.U - b.U
		}
		return a.V - b.V
	})
	return g
}

// edges is the graph of n vertices and these ends, in pairs, just as they are told; weights are 1, 2 and so on.
func edges(n int, ends ...int) api.Graph {
	g := api.Graph{N: n}
	for i := 0; i < len(ends); i += 2 {
		g.E = append(g.E, api.Edge{U: ends[i], V: ends[i+1], W: int64(i/2 + 1)})
	}
	return g
}

// of is the graph of a system.
func of(r [][]int) api.Graph {
	var ends []int
	for v, list := range r {
		for _, u := range list {
			if v < u {
				ends = append(ends, v, u)
			}
		}
	}
	return sorted(len(r), ends...)
}

// along is the ends of the way over these vertices.
func along(vertices ...int) []int {
	var ends []int
	for i := 1; i < len(vertices); i++ {
		ends = append(ends, vertices[i-1], vertices[i])
	}
	return ends
}

// round is the ends of the closed way over these vertices.
func round(vertices ...int) []int {
	return append(along(vertices...), vertices[len(vertices)-1], vertices[0])
}

// among is the ends of all edges between these vertices.
func among(vertices ...int) []int {
	var ends []int
	for i, u := range vertices {
		for _, v := range vertices[:i] {
			ends = append(ends, u, v)
		}
	}
	return ends
}

// between is the ends of all edges from the first a vertices to the b ones behind them.
func between(a, b int) []int {
	var ends []int
	for u := range a {
		for v := range b {
			ends = append(ends, u, a+v)
		}
	}
	return ends
}

// upTo is the numbers from 0 to n - 1.
func upTo(n int) []int {
	list := make([]int, n)
	for i := range list {
		list[i] = i
	}
	return list
}

// grid is a system in the plane: rows and columns of vertices, each joined to the next ones.
func grid(rows, columns int) [][]int {
	r := make([][]int, rows*columns)
	for v := range r {
		x, y := v%columns, v/columns
		if x > 0 {
			r[v] = append(r[v], v-1)
		}
		if y > 0 {
			r[v] = append(r[v], v-columns)
		}
		if x < columns-1 {
			r[v] = append(r[v], v+1)
		}
		if y < rows-1 {
			r[v] = append(r[v], v+columns)
		}
	}
	return r
}

// ring is a system on a ring: a grid whose last row and column are joined to the first ones.
func ring(rows, columns int) [][]int {
	r := make([][]int, rows*columns)
	for v := range r {
		x, y := v%columns, v/columns
		at := func(x, y int) int { return (y+rows)%rows*columns + (x+columns)%columns }
		r[v] = []int{at(x-1, y), at(x, y-1), at(x+1, y), at(x, y+1)}
	}
	return r
}

// beside is two systems as one, the second one's vertices behind the first one's.
func beside(a, b [][]int) [][]int {
	r := slices.Clone(a)
	for _, list := range b {
		moved := make([]int, len(list))
		for i, u := range list {
			moved[i] = u + len(a)
		}
		r = append(r, moved)
	}
	return r
}

// sample is a graph and one of its systems.
type sample struct {
	g api.Graph
	r [][]int
}

// samples is systems beyond the small ones: of few edges and of many, of forests, of several components.
func samples() []sample {
	d := dice(20261118)
	var list []sample
	add := func(g api.Graph) { list = append(list, sample{g, d.system(g)}) }
	for n := 2; n < 40; n += 3 {
		for _, chance := range []int{100 / n, 150 / n, 250 / n, 50, 100} {
			add(d.graph(n, chance))
		}
	}
	for range 60 {
		add(d.forest(1 + d.below(40)))
	}
	for rows := range 6 {
		r := d.turned(grid(rows+1, 5))
		list = append(list, sample{of(r), r})
		r = d.turned(beside(ring(rows+3, 4), grid(rows, 3)))
		list = append(list, sample{of(r), r})
	}
	return list
}

// wrongs is graphs that are not right, in each of the ways there are.
func wrongs() map[string]api.Graph {
	weighed := func(w int64) api.Graph { return api.Graph{N: 3, E: []api.Edge{{U: 0, V: 1, W: w}}} }
	return map[string]api.Graph{
		"N below 0":            {N: -1},
		"least N":              {N: math.MinInt},
		"N below 0, an edge":   edges(-3, 0, 1),
		"N beyond":             {N: api.MaxN + 1},
		"N beyond, an edge":    edges(api.MaxN+1, 0, 1),
		"greatest N":           {N: math.MaxInt},
		"edges beyond":         full(api.MaxM + 1),
		"U below 0":            edges(3, -1, 1),
		"V below 0":            edges(3, 0, -1),
		"U beyond":             edges(3, 3, 1),
		"V beyond":             edges(3, 0, 1, 1, 3),
		"the least vertex":     edges(3, math.MinInt, 1),
		"the greatest vertex":  edges(3, 0, math.MaxInt),
		"no vertex at all":     edges(0, 0, 1),
		"a loop":               edges(3, 0, 1, 1, 1),
		"a loop alone":         edges(1, 0, 0),
		"weight beyond":        weighed(api.MaxW),
		"weight below":         weighed(-api.MaxW),
		"the greatest weight":  weighed(math.MaxInt64),
		"the least weight":     weighed(math.MinInt64),
		"ends turned":          edges(3, 1, 0),
		"an edge twice":        edges(3, 0, 1, 0, 1),
		"an edge twice, later": edges(3, 0, 1, 0, 2, 1, 2, 1, 2),
		"edges fall by U":      edges(3, 1, 2, 0, 1),
		"edges fall by V":      edges(3, 0, 2, 0, 1),
		"the last of many":     edges(4, 0, 1, 0, 2, 1, 2, 2, 3, 1, 3),
	}
}

// full is a graph of 4096 vertices and m edges, the first ones in order.
func full(m int) api.Graph {
	g := api.Graph{N: 4096, E: make([]api.Edge, 0, m)}
	for u := range g.N {
		for v := u + 1; v < g.N && len(g.E) < m; v++ {
			g.E = append(g.E, api.Edge{U: u, V: v, W: api.MaxW - 1})
		}
	}
	return g
}
