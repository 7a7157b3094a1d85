package cut_test

import (
	"fmt"
	"math"
	"slices"
	"testing"

	"filigree/api"
	"filigree/graph"
	"filigree/planar"
	"filigree/rotation"
)

// dice throws the same numbers in every run.
type dice uint64

func (d *dice) next() uint64 {
	*d ^= *d << 13
	*d ^= *d >> 7
	*d ^= *d << 17
	return uint64(*d)
}

func (d *dice) below(n int) int { return int(d.next() % uint64(n)) }

// truths is so many truths.
func (d *dice) truths(n int) []bool {
	list := make([]bool, n)
	for i := range list {
		list[i] = d.below(2) == 1
	}
	return list
}

// order is the numbers below n in some order.
func (d *dice) order(n int) []int {
	list := make([]int, n)
	for i := range list {
		j := d.below(i + 1)
		list[i], list[j] = list[j], i
	}
	return list
}

// graph is a graph of n vertices, with so many of a hundred edges that there may be, and weights below most.
func (d *dice) graph(n, share, most int) api.Graph {
	g := api.Graph{N: n}
	for u := range n {
		for v := u + 1; v < n; v++ {
			if d.below(100) < share {
				g.E = append(g.E, api.Edge{U: u, V: v, W: int64(d.below(most))})
			}
		}
	}
	return g
}

// named is a system whose vertices are named anew, each list begun anywhere.
func (d *dice) named(r [][]int) [][]int {
	name := d.order(len(r))
	lists := make([][]int, len(r))
	for v, list := range r {
		begin := d.below(len(list) + 1)
		for _, u := range slices.Concat(list[begin:], list[:begin]) {
			lists[name[v]] = append(lists[name[v]], name[u])
		}
	}
	return lists
}

// thinner is a system of which so many of a hundred edges stay: what was in the plane is so still.
func (d *dice) thinner(stay int, r [][]int) [][]int {
	goes := map[[2]int]bool{}
	lists := make([][]int, len(r))
	for v, list := range r {
		for _, u := range list {
			edge := [2]int{min(u, v), max(u, v)}
			if _, known := goes[edge]; !known {
				goes[edge] = d.below(100) >= stay
			}
			if !goes[edge] {
				lists[v] = append(lists[v], u)
			}
		}
	}
	return lists
}

// way is n vertices in a row.
func way(n int) [][]int {
	r := make([][]int, n)
	for v := 1; v < n; v++ {
		r[v-1] = append(r[v-1], v)
		r[v] = append(r[v], v-1)
	}
	return r
}

// ring is a closed way of n vertices.
func ring(n int) [][]int {
	r := make([][]int, n)
	for v := range r {
		r[v] = []int{(v + n - 1) % n, (v + 1) % n}
	}
	return r
}

// star is vertex 0 joined to n - 1 others.
func star(n int) [][]int {
	r := make([][]int, n)
	for v := 1; v < n; v++ {
		r[0] = append(r[0], v)
		r[v] = []int{0}
	}
	return r
}

// wheel is a closed way around vertex 0, which is joined to all of its n - 1 vertices.
func wheel(n int) [][]int {
	r := star(n)
	for v := range n - 1 {
		r[v+1] = []int{0, 1 + (v+n-2)%(n-1), 1 + (v+1)%(n-1)}
	}
	return r
}

// grid is rows and columns of vertices, each joined to the next ones.
func grid(rows, columns int) [][]int {
	r := make([][]int, rows*columns)
	for v := range r {
		x, y := v%columns, v/columns
		if x > 0 {
			r[v] = append(r[v], v-1)
		}
		if y > 0 {
			r[v] = append(r[v], v-columns)
		}
		if x < columns-1 {
			r[v] = append(r[v], v+1)
		}
		if y < rows-1 {
			r[v] = append(r[v], v+columns)
		}
	}
	return r
}

// braced is a grid whose squares have a brace from the upper left to the lower right, each with a chance of so many in a hundred.
func (d *dice) braced(rows, columns, share int) [][]int {
	r := grid(rows, columns)
	behind := func(v, u, new int) { r[v] = slices.Insert(r[v], slices.Index(r[v], u)+1, new) }
	for y := range rows - 1 {
		for x := range columns - 1 {
			if v := y*columns + x; d.below(100) < share {
				behind(v, v+1, v+columns+1)
				behind(v+columns+1, v+columns, v)
			}
		}
	}
	return r
}

// nest is rings of n vertices around each other, each vertex joined to the next ring's.
func nest(rings, n int) [][]int {
	r := make([][]int, rings*n)
	for v := range r {
		first := v / n * n
		if v >= n {
			r[v] = append(r[v], v-n)
		}
		r[v] = append(r[v], first+(v+1)%n)
		if v < (rings-1)*n {
			r[v] = append(r[v], v+n)
		}
		r[v] = append(r[v], first+(v+n-1)%n)
	}
	return r
}

// tree is n vertices, all of which hang together without a closed way.
func (d *dice) tree(n int) [][]int {
	r := make([][]int, n)
	for v := 1; v < n; v++ {
		u := d.below(v)
		r[v] = append(r[v], u)
		r[u] = append(r[u], v)
	}
	return r
}

// triangles is a system all of whose faces are triangles: each new vertex goes into any of them.
func (d *dice) triangles(n int) [][]int {
	r := ring(3)
	list := [][3]int{{0, 1, 2}, {0, 2, 1}}
	behind := func(v, u, new int) { r[v] = slices.Insert(r[v], slices.Index(r[v], u)+1, new) }
	for v := 3; v < n; v++ {
		i := d.below(len(list))
		a, b, c := list[i][0], list[i][1], list[i][2]
		behind(a, c, v)
		behind(b, a, v)
		behind(c, b, v)
		r = append(r, []int{b, a, c})
		list[i] = [3]int{a, b, v}
		list = append(list, [3]int{b, c, v}, [3]int{c, a, v})
	}
	return r
}

// fan is so many triangles that have vertex 0 in common, and nothing else.
func fan(count int) [][]int {
	r := make([][]int, 1+2*count)
	for v := 1; v < len(r); v += 2 {
		r[0] = append(r[0], v, v+1)
		r[v] = []int{0, v + 1}
		r[v+1] = []int{0, v}
	}
	return r
}

// beside is systems as one, the vertices of each behind those of the one ahead of it.
func beside(systems ...[][]int) [][]int {
	var r [][]int
	for _, system := range systems {
		by := len(r)
		for _, list := range system {
			moved := make([]int, len(list))
			for i, u := range list {
				moved[i] = u + by
			}
			r = append(r, moved)
		}
	}
	return r
}

// glued is two systems with vertex 0 of both as one, which is a cut vertex then.
func glued(a, b [][]int) [][]int {
	all := beside(a, b)
	from := len(a) // the number of b's vertex 0, which goes
	name := func(v int) int {
		switch {
		case v == from:
			return 0
		case v > from:
			return v - 1
		}
		return v
	}
	all[0] = slices.Concat(all[0], all[from])
	all = slices.Delete(all, from, from+1)
	for _, list := range all {
		for i, u := range list {
			list[i] = name(u)
		}
	}
	return all
}

// bridged is two systems and an edge between vertex 0 of both.
func bridged(a, b [][]int) [][]int {
	r := beside(a, b)
	r[0] = append(r[0], len(a))
	r[len(a)] = append(r[len(a)], 0)
	return r
}

// alone is n vertices without an edge.
func alone(n int) [][]int { return make([][]int, n) }

// of is the right graph of these lists of neighbours; weights are 1, 2 and so on.
func of(r [][]int) api.Graph {
	g := api.Graph{N: len(r)}
	for u, list := range r {
		sorted := slices.Clone(list)
		slices.Sort(sorted)
		for _, v := range sorted {
			if u < v {
				g.E = append(g.E, api.Edge{U: u, V: v, W: int64(len(g.E) + 1)})
			}
		}
	}
	return g
}

// edges is the graph of n vertices and these edges, just as they are told: U, V and W of each.
func edges(n int, list ...[3]int64) api.Graph {
	g := api.Graph{N: n}
	for _, e := range list {
		g.E = append(g.E, api.Edge{U: int(e[0]), V: int(e[1]), W: e[2]})
	}
	return g
}

// all is n vertices, each joined to each, by edges of one weight.
func all(n int, weight int64) api.Graph {
	g := api.Graph{N: n}
	for u := range n {
		for v := u + 1; v < n; v++ {
			g.E = append(g.E, api.Edge{U: u, V: v, W: weight})
		}
	}
	return g
}

// rising is the system of a graph whose lists rise.
func rising(g api.Graph) [][]int {
	r := make([][]int, g.N)
	for _, e := range g.E {
		r[e.U] = append(r[e.U], e.V)
		r[e.V] = append(r[e.V], e.U)
	}
	for _, list := range r {
		slices.Sort(list)
	}
	return r
}

// weighed is a graph with other weights.
func weighed(g api.Graph, weight func(place int) int64) api.Graph {
	other := api.Graph{N: g.N, E: slices.Clone(g.E)}
	for place := range other.E {
		other.E[place].W = weight(place)
	}
	return other
}

// weights is ways of giving each edge a weight from 0 on.
func (d *dice) weights() []struct {
	what   string
	weight func(place int) int64
} {
	return []struct {
		what   string
		weight func(place int) int64
	}{
		{"rising", func(place int) int64 { return int64(place + 1) }},
		{"1", func(int) int64 { return 1 }},
		{"0", func(int) int64 { return 0 }},
		{"0 and 1", func(int) int64 { return int64(d.below(2)) }},
		{"few", func(int) int64 { return int64(d.below(5)) }},
		{"any", func(int) int64 { return int64(d.below(api.MaxW)) }},
		{"very different", func(int) int64 { return int64(1)<<d.below(31) - int64(d.below(2)) }},
		{"near to MaxW", func(int) int64 { return api.MaxW - 1 - int64(d.below(3)) }},
		{"0 and MaxW - 1", func(int) int64 { return int64(d.below(2)) * (api.MaxW - 1) }},
	}
}

// sample is a graph without weights below 0, and one of its systems in the plane.
type sample struct {
	what string
	g    api.Graph
	r    [][]int
}

// shapes is systems in the plane of many kinds, of some 3 times size vertices at most.
func (d *dice) shapes(size int) []sample {
	var list []sample
	add := func(what string, n int, r [][]int) {
		list = append(list, sample{fmt.Sprint(what, " of ", n), of(r), r})
	}
	for n := range 4 {
		add("no edge", n, alone(n))
	}
	for n := 2; n <= 4; n++ {
		add("all", n, told(all(n, 1)))
	}
	for n := 3; n <= size; n += 2 {
		add("way", n, way(n))
		add("ring", n, ring(n))
		add("even ring", n+1, ring(n+1))
		add("star", n, star(n))
		add("wheel", n+1, wheel(n+1))
		add("wheel", n+2, wheel(n+2))
		add("grid", n, grid(n/3+1, 3))
		add("braced grid", n, d.braced(n/3+1, 3, 50))
		add("nest", n, nest(n/3, 3))
		add("tree", n, d.tree(n))
		add("fan", n, fan(n/2))
		add("triangles", n, d.triangles(n))
		add("some of triangles", n, d.thinner(70, d.triangles(n)))
		add("few of triangles", n, d.thinner(40, d.triangles(n)))
		add("a ring and a wheel with a vertex in common", n, glued(ring(n), wheel(n/2+3)))
		add("a ring and triangles with an edge between", n, bridged(ring(n), d.triangles(n/2+3)))
		add("several", n, beside(alone(1), ring(3), d.tree(n/2), alone(1), wheel(n/2+3)))
	}
	return list
}

// samples is systems in the plane of many kinds: with weights of many kinds, with other names, with their mirrors, and as planar
// tells them.
func samples(size int) []sample {
	d := dice(20261118)
	var list []sample
	for _, s := range d.shapes(size) {
		for i, by := range d.weights() {
			g := weighed(s.g, by.weight)
			list = append(list, sample{s.what + ", weights " + by.what, g, s.r})
			switch i % 3 {
			case 0:
				list = append(list, sample{s.what + ", mirror, weights " + by.what, g, rotation.Mirror(s.r)})
			case 1:
				list = append(list, sample{s.what + ", as planar tells it, weights " + by.what, g, told(g)})
			default:
				r := d.named(s.r)
				list = append(list, sample{s.what + ", named anew, weights " + by.what, weighed(of(r), by.weight), r})
			}
		}
	}
	return list
}

// told is the system in the plane that planar tells of a graph.
func told(g api.Graph) [][]int {
	a, k := planar.Decide(g)
	if k != api.OK || !a.Planar {
		panic(fmt.Sprint("not planar: ", g, int(k)))
	}
	return a.R
}

// wrongs is graphs that are not right, in each of the ways there are.
func wrongs() map[string]api.Graph {
	const n = api.MaxN
	return map[string]api.Graph{
		"N below 0":            {N: -1},
		"least N":              {N: math.MinInt},
		"N below 0, an edge":   edges(-3, [3]int64{0, 1, 1}),
		"N beyond":             {N: n + 1},
		"N beyond, an edge":    edges(n+1, [3]int64{0, 1, 1}),
		"greatest N":           {N: math.MaxInt},
		"edges beyond":         full(api.MaxM + 1),
		"U below 0":            edges(3, [3]int64{-1, 1, 1}),
		"V below 0":            edges(3, [3]int64{0, -1, 1}),
		"U beyond":             edges(3, [3]int64{3, 1, 1}),
		"V beyond":             edges(3, [3]int64{0, 1, 1}, [3]int64{1, 3, 1}),
		"the least vertex":     edges(3, [3]int64{math.MinInt, 1, 1}),
		"the greatest vertex":  edges(3, [3]int64{0, math.MaxInt, 1}),
		"no vertex at all":     edges(0, [3]int64{0, 1, 1}),
		"a loop":               edges(3, [3]int64{0, 1, 1}, [3]int64{1, 1, 1}),
		"a loop alone":         edges(1, [3]int64{0, 0, 1}),
		"weight beyond":        edges(3, [3]int64{0, 1, api.MaxW}),
		"weight below":         edges(3, [3]int64{0, 1, -api.MaxW}),
		"the greatest weight":  edges(3, [3]int64{0, 1, math.MaxInt64}),
		"the least weight":     edges(3, [3]int64{0, 1, math.MinInt64}),
		"ends turned":          edges(3, [3]int64{1, 0, 1}),
		"an edge twice":        edges(3, [3]int64{0, 1, 1}, [3]int64{0, 1, 1}),
		"an edge twice, later": edges(3, [3]int64{0, 1, 1}, [3]int64{0, 2, 1}, [3]int64{1, 2, 1}, [3]int64{1, 2, 2}),
		"edges fall by U":      edges(3, [3]int64{1, 2, 1}, [3]int64{0, 1, 1}),
		"edges fall by V":      edges(3, [3]int64{0, 2, 1}, [3]int64{0, 1, 1}),
		"the last of many":     edges(4, [3]int64{0, 1, 1}, [3]int64{0, 2, 1}, [3]int64{1, 2, 1}, [3]int64{2, 3, 1}, [3]int64{1, 3, 1}),
	}
}

// full is a graph of 4096 vertices and m edges, the first ones in order, of the greatest weight.
func full(m int) api.Graph {
	g := api.Graph{N: 4096, E: make([]api.Edge, 0, m)}
	for u := range g.N {
		for v := u + 1; v < g.N && len(g.E) < m; v++ {
			g.E = append(g.E, api.Edge{U: u, V: v, W: api.MaxW - 1})
		}
	}
	return g
}

// The samples are what they are meant to be: right graphs, without weights below 0, and systems in the plane.
func TestSamples(t *testing.T) {
	d := dice(1500)
	list := samples(15)
	for n := 2; n < 8; n++ {
		r := d.braced(n, n, 60)
		list = append(list, sample{"braced grid", of(r), r})
	}
	for _, s := range list {
		isLight := func(e api.Edge) bool { return e.W < 0 }
		if k := rotation.Plane(s.g, s.r); k != api.OK || graph.Right(s.g) != api.OK || slices.ContainsFunc(s.g.E, isLight) {
			t.Fatalf("%s: %v, %v: kind %d", s.what, s.g, s.r, int(k))
		}
	}
}
