package pfaffian_test

import (
	"fmt"
	"math"
	"slices"
	"testing"

	"filigree/api"
	"filigree/graph"
	"filigree/planar"
	"filigree/rotation"
)

// dice throws the same numbers in every run.
type dice uint64

func (d *dice) next() uint64 {
	*d ^= *d << 13
	*d ^= *d >> 7
	*d ^= *d << 17
	return uint64(*d)
}

func (d *dice) below(n int) int { return int(d.next() % uint64(n)) }

// truths is so many truths.
func (d *dice) truths(n int) []bool {
	list := make([]bool, n)
	for i := range list {
		list[i] = d.below(2) == 1
	}
	return list
}

// order is the numbers below n in some order.
func (d *dice) order(n int) []int {
	list := make([]int, n)
	for i := range list {
		j := d.below(i + 1)
		list[i], list[j] = list[j], i
	}
	return list
}

// named is a system whose vertices are named anew, each list begun anywhere.
func (d *dice) named(r [][]int) [][]int {
	name := d.order(len(r))
	lists := make([][]int, len(r))
	for v, list := range r {
		begin := d.below(len(list) + 1)
		for _, u := range slices.Concat(list[begin:], list[:begin]) {
			lists[name[v]] = append(lists[name[v]], name[u])
		}
	}
	return lists
}

// thinner is a system of which so many of a hundred edges stay: what was in the plane is so still.
func (d *dice) thinner(stay int, r [][]int) [][]int {
	goes := map[[2]int]bool{}
	return without(r, func(u, v int) bool {
		edge := [2]int{min(u, v), max(u, v)}
		if _, known := goes[edge]; !known {
			goes[edge] = d.below(100) >= stay
		}
		return goes[edge]
	})
}

// without is a system without the edges that go: what was in the plane is so still.
func without(r [][]int, goes func(u, v int) bool) [][]int {
	lists := make([][]int, len(r))
	for v, list := range r {
		for _, u := range list {
			if !goes(u, v) {
				lists[v] = append(lists[v], u)
			}
		}
	}
	return lists
}

// way is n vertices in a row.
func way(n int) [][]int {
	r := make([][]int, n)
	for v := 1; v < n; v++ {
		r[v-1] = append(r[v-1], v)
		r[v] = append(r[v], v-1)
	}
	return r
}

// ring is a closed way of n vertices.
func ring(n int) [][]int {
	r := make([][]int, n)
	for v := range r {
		r[v] = []int{(v + n - 1) % n, (v + 1) % n}
	}
	return r
}

// star is vertex 0 joined to n - 1 others.
func star(n int) [][]int {
	r := make([][]int, n)
	for v := 1; v < n; v++ {
		r[0] = append(r[0], v)
		r[v] = []int{0}
	}
	return r
}

// wheel is a closed way around vertex 0, which is joined to all of its n - 1 vertices.
func wheel(n int) [][]int {
	r := star(n)
	for v := range n - 1 {
		r[v+1] = []int{0, 1 + (v+n-2)%(n-1), 1 + (v+1)%(n-1)}
	}
	return r
}

// poles is a closed way of n - 2 vertices, each of which is joined to the last two vertices too: triangles alone.
func poles(n int) [][]int {
	ringed := n - 2
	r := make([][]int, n)
	for v := range ringed {
		r[v] = []int{ringed, (v + ringed - 1) % ringed, ringed + 1, (v + 1) % ringed}
		r[ringed] = append(r[ringed], v)
		r[ringed+1] = append(r[ringed+1], v)
	}
	slices.Reverse(r[ringed+1])
	return r
}

// grid is rows and columns of vertices, each joined to the next ones.
func grid(rows, columns int) [][]int {
	r := make([][]int, rows*columns)
	for v := range r {
		x, y := v%columns, v/columns
		if x > 0 {
			r[v] = append(r[v], v-1)
		}
		if y > 0 {
			r[v] = append(r[v], v-columns)
		}
		if x < columns-1 {
			r[v] = append(r[v], v+1)
		}
		if y < rows-1 {
			r[v] = append(r[v], v+columns)
		}
	}
	return r
}

// braced is a grid whose squares have a brace from the upper left to the lower right, each with a chance of so many in a hundred.
func (d *dice) braced(rows, columns, share int) [][]int {
	r := grid(rows, columns)
	behind := func(v, u, new int) { r[v] = slices.Insert(r[v], slices.Index(r[v], u)+1, new) }
	for y := range rows - 1 {
		for x := range columns - 1 {
			if v := y*columns + x; d.below(100) < share {
				behind(v, v+1, v+columns+1)
				behind(v+columns+1, v+columns, v)
			}
		}
	}
	return r
}

// nest is rings of n vertices around each other, each vertex joined to the next ring's. Two rings of 4 are a cube.
func nest(rings, n int) [][]int {
	r := make([][]int, rings*n)
	for v := range r {
		first := v / n * n
		if v >= n {
			r[v] = append(r[v], v-n)
		}
		r[v] = append(r[v], first+(v+1)%n)
		if v < (rings-1)*n {
			r[v] = append(r[v], v+n)
		}
		r[v] = append(r[v], first+(v+n-1)%n)
	}
	return r
}

// tree is n vertices, all of which hang together without a closed way.
func (d *dice) tree(n int) [][]int {
	r := make([][]int, n)
	for v := 1; v < n; v++ {
		u := d.below(v)
		r[v] = append(r[v], u)
		r[u] = append(r[u], v)
	}
	return r
}

// forest is several trees of n vertices in all.
func (d *dice) forest(n int) [][]int { return d.thinner(75, d.tree(n)) }

// triangles is a system all of whose faces are triangles: each new vertex goes into any of them.
func (d *dice) triangles(n int) [][]int {
	r := ring(3)
	list := [][3]int{{0, 1, 2}, {0, 2, 1}}
	behind := func(v, u, new int) { r[v] = slices.Insert(r[v], slices.Index(r[v], u)+1, new) }
	for v := 3; v < n; v++ {
		i := d.below(len(list))
		a, b, c := list[i][0], list[i][1], list[i][2]
		behind(a, c, v)
		behind(b, a, v)
		behind(c, b, v)
		r = append(r, []int{b, a, c})
		list[i] = [3]int{a, b, v}
		list = append(list, [3]int{b, c, v}, [3]int{c, a, v})
	}
	return r
}

// fan is so many triangles that have vertex 0 in common, and nothing else.
func fan(count int) [][]int {
	r := make([][]int, 1+2*count)
	for v := 1; v < len(r); v += 2 {
		r[0] = append(r[0], v, v+1)
		r[v] = []int{0, v + 1}
		r[v+1] = []int{0, v}
	}
	return r
}

// cornered is a system with each corner cut off: its vertices are the other one's darts, each joined to the same edge's other dart and to
// the darts beside it around the vertex that they leave.
func cornered(r [][]int) [][]int {
	name := map[[2]int]int{}
	for v, list := range r {
		for _, u := range list {
			name[[2]int{v, u}] = len(name)
		}
	}
	lists := make([][]int, len(name))
	for v, list := range r {
		for at, u := range list {
			ahead, behind := list[(at+len(list)-1)%len(list)], list[(at+1)%len(list)]
			lists[name[[2]int{v, u}]] = []int{name[[2]int{v, ahead}], name[[2]int{u, v}], name[[2]int{v, behind}]}
		}
	}
	return lists
}

// icosahedron is the system of the solid of 20 triangles.
func icosahedron() [][]int {
	r := make([][]int, 12)
	for i := range 5 {
		left, right := (i+4)%5, (i+1)%5
		r[0] = append(r[0], 1+i)
		r[1+i] = []int{0, 1 + left, 6 + left, 6 + i, 1 + right}
		r[6+i] = []int{11, 6 + right, 1 + right, 1 + i, 6 + left}
		r[11] = slices.Insert(r[11], 0, 6+i)
	}
	return r
}

// dual is the system whose vertices are the faces of another one, two of which have at most one edge in common.
func dual(r [][]int) [][]int {
	face := map[[2]int]int{}
	rounds := roundsOf(r)
	for i, round := range rounds {
		for _, d := range round {
			face[[2]int{d.U, d.V}] = i
		}
	}
	lists := make([][]int, len(rounds))
	for i, round := range rounds {
		for _, d := range round {
			lists[i] = append(lists[i], face[[2]int{d.V, d.U}])
		}
	}
	return lists
}

// aztec is the squares that lie whole within a square on its corner, 2 n squares high and wide, each joined to the ones beside it.
func aztec(n int) [][]int {
	inside := func(x, y int) bool {
		far := func(a int) int { return max(a-n, n-1-a) }
		return min(x, y) >= 0 && max(x, y) < 2*n && far(x)+far(y) < n
	}
	name := map[[2]int]int{}
	for y := range 2 * n {
		for x := range 2 * n {
			if inside(x, y) {
				name[[2]int{x, y}] = len(name)
			}
		}
	}
	r := make([][]int, len(name))
	for at, v := range name {
		for _, by := range [][2]int{{-1, 0}, {0, -1}, {1, 0}, {0, 1}} {
			if x, y := at[0]+by[0], at[1]+by[1]; inside(x, y) {
				r[v] = append(r[v], name[[2]int{x, y}])
			}
		}
	}
	return r
}

// beside is systems as one, the vertices of each behind those of the one ahead of it.
func beside(systems ...[][]int) [][]int {
	var r [][]int
	for _, system := range systems {
		by := len(r)
		for _, list := range system {
			moved := make([]int, len(list))
			for i, u := range list {
				moved[i] = u + by
			}
			r = append(r, moved)
		}
	}
	return r
}

// copies is so many of the same system beside each other.
func copies(count int, r [][]int) [][]int { return beside(slices.Repeat([][][]int{r}, count)...) }

// glued is two systems with vertex 0 of both as one, which is a cut vertex then.
func glued(a, b [][]int) [][]int {
	all := beside(a, b)
	from := len(a) // the number of b's vertex 0, which goes
	name := func(v int) int {
		switch {
		case v == from:
			return 0
		case v > from:
			return v - 1
		}
		return v
	}
	all[0] = slices.Concat(all[0], all[from])
	all = slices.Delete(all, from, from+1)
	for _, list := range all {
		for i, u := range list {
			list[i] = name(u)
		}
	}
	return all
}

// bridged is two systems and an edge between vertex 0 of both.
func bridged(a, b [][]int) [][]int {
	r := beside(a, b)
	r[0] = append(r[0], len(a))
	r[len(a)] = append(r[len(a)], 0)
	return r
}

// alone is n vertices without an edge.
func alone(n int) [][]int { return make([][]int, n) }

// bagel is a system that is not in the plane: a grid whose last row and column are joined to the first ones.
func bagel(rows, columns int) [][]int {
	r := make([][]int, rows*columns)
	for v := range r {
		x, y := v%columns, v/columns
		at := func(x, y int) int { return (y+rows)%rows*columns + (x+columns)%columns }
		r[v] = []int{at(x-1, y), at(x, y-1), at(x+1, y), at(x, y+1)}
	}
	return r
}

// between is the lists of the first a vertices and of the b ones behind them, each joined to all of the other side.
func between(a, b int) [][]int {
	r := make([][]int, a+b)
	for u := range a {
		for v := a; v < a+b; v++ {
			r[u] = append(r[u], v)
			r[v] = append(r[v], u)
		}
	}
	return r
}

// of is the right graph of these lists of neighbours; weights are 1, 2 and so on.
func of(r [][]int) api.Graph {
	g := api.Graph{N: len(r)}
	for u, list := range r {
		sorted := slices.Clone(list)
		slices.Sort(sorted)
		for _, v := range sorted {
			if u < v {
				g.E = append(g.E, api.Edge{U: u, V: v, W: int64(len(g.E) + 1)})
			}
		}
	}
	return g
}

// edges is the graph of n vertices and these edges, just as they are told: U, V and W of each.
func edges(n int, list ...[3]int64) api.Graph {
	g := api.Graph{N: n}
	for _, e := range list {
		g.E = append(g.E, api.Edge{U: int(e[0]), V: int(e[1]), W: e[2]})
	}
	return g
}

// all is n vertices, each joined to each.
func all(n int) api.Graph {
	g := api.Graph{N: n}
	for u := range n {
		for v := u + 1; v < n; v++ {
			g.E = append(g.E, api.Edge{U: u, V: v})
		}
	}
	return g
}

// smalls tells each graph of n vertices.
func smalls(n int, tell func(g api.Graph)) {
	whole := all(n)
	for set := range 1 << len(whole.E) {
		g := api.Graph{N: n}
		for place, e := range whole.E {
			if set>>place&1 == 1 {
				g.E = append(g.E, e)
			}
		}
		tell(g)
	}
}

// rising is the system of a graph whose lists rise.
func rising(g api.Graph) [][]int {
	r := make([][]int, g.N)
	for _, e := range g.E {
		r[e.U] = append(r[e.U], e.V)
		r[e.V] = append(r[e.V], e.U)
	}
	for _, list := range r {
		slices.Sort(list)
	}
	return r
}

// weighed is a graph with other weights.
func weighed(g api.Graph, weight func(place int) int64) api.Graph {
	other := api.Graph{N: g.N, E: slices.Clone(g.E)}
	for place := range other.E {
		other.E[place].W = weight(place)
	}
	return other
}

// sample is a graph and one of its systems in the plane.
type sample struct {
	what string
	g    api.Graph
	r    [][]int
}

// shapes is systems in the plane of many kinds, of some 2 times size vertices at most.
func (d *dice) shapes(size int) []sample {
	var list []sample
	add := func(what string, n int, r [][]int) {
		list = append(list, sample{fmt.Sprint(what, " of ", n), of(r), r})
	}
	for n := range 4 {
		add("no edge", n, alone(n))
	}
	for n := 2; n <= 4; n++ {
		add("all", n, system(all(n)))
	}
	for n := 3; n <= size; n++ {
		add("way", n, way(n))
		add("ring", n, ring(n))
		add("star", n, star(n))
		add("wheel", n+1, wheel(n+1))
		add("poles", n+2, poles(n+2))
		add("grid", n, grid(n/3+1, 3))
		add("braced grid", n, d.braced(n/3+1, 3, 50))
		add("nest", n, nest(n/3, 3))
		add("tree", n, d.tree(n))
		add("forest", n, d.forest(n))
		add("fan", n, fan(n/2))
		add("triangles", n, d.triangles(n))
		add("most of triangles", n, d.thinner(85, d.triangles(n)))
		add("some of triangles", n, d.thinner(60, d.triangles(n)))
		add("a ring and a wheel with a vertex in common", n, glued(ring(n), wheel(n/2+3)))
		add("a ring and triangles with an edge between", n, bridged(ring(n), d.triangles(n/2+3)))
		add("two wheels and a tree with edges between", n, bridged(bridged(wheel(n/3+4), d.tree(n/3)), wheel(n/2+3)))
		add("several", n, beside(ring(4), d.tree(n/2), wheel(n/2+3)))
		add("several, two alone", n, beside(alone(1), ring(3), d.tree(n/2), alone(1), wheel(n/2+3)))
	}
	return list
}

// samples is systems in the plane of many kinds: as they are, their mirrors, with other names and as planar tells them.
func samples(size int) []sample {
	d := dice(20261119)
	var list []sample
	for _, s := range d.shapes(size) {
		named := d.named(s.r)
		list = append(list, s,
			sample{s.what + ", mirror", s.g, rotation.Mirror(s.r)},
			sample{s.what + ", as planar tells it", s.g, system(s.g)},
			sample{s.what + ", named anew", of(named), named})
	}
	return list
}

// planarly is the system in the plane that planar tells of a graph, if it is planar.
func planarly(g api.Graph) ([][]int, bool) {
	a, k := planar.Decide(g)
	return a.R, k == api.OK && a.Planar
}

// system is the same of a graph that is planar.
func system(g api.Graph) [][]int {
	r, ok := planarly(g)
	if !ok {
		panic(fmt.Sprint("not planar: ", g))
	}
	return r
}

// wrongs is graphs that are not right, in each of the ways there are.
func wrongs() map[string]api.Graph {
	const n = api.MaxN
	return map[string]api.Graph{
		"N below 0":            {N: -1},
		"least N":              {N: math.MinInt},
		"N below 0, an edge":   edges(-3, [3]int64{0, 1, 1}),
		"N beyond":             {N: n + 1},
		"N beyond, an edge":    edges(n+1, [3]int64{0, 1, 1}),
		"greatest N":           {N: math.MaxInt},
		"edges beyond":         full(api.MaxM + 1),
		"U below 0":            edges(3, [3]int64{-1, 1, 1}),
		"V below 0":            edges(3, [3]int64{0, -1, 1}),
		"U beyond":             edges(3, [3]int64{3, 1, 1}),
		"V beyond":             edges(3, [3]int64{0, 1, 1}, [3]int64{1, 3, 1}),
		"the least vertex":     edges(3, [3]int64{math.MinInt, 1, 1}),
		"the greatest vertex":  edges(3, [3]int64{0, math.MaxInt, 1}),
		"no vertex at all":     edges(0, [3]int64{0, 1, 1}),
		"a loop":               edges(3, [3]int64{0, 1, 1}, [3]int64{1, 1, 1}),
		"a loop alone":         edges(1, [3]int64{0, 0, 1}),
		"weight beyond":        edges(3, [3]int64{0, 1, api.MaxW}),
		"weight below":         edges(3, [3]int64{0, 1, -api.MaxW}),
		"the greatest weight":  edges(3, [3]int64{0, 1, math.MaxInt64}),
		"the least weight":     edges(3, [3]int64{0, 1, math.MinInt64}),
		"ends turned":          edges(3, [3]int64{1, 0, 1}),
		"an edge twice":        edges(3, [3]int64{0, 1, 1}, [3]int64{0, 1, 1}),
		"an edge twice, later": edges(3, [3]int64{0, 1, 1}, [3]int64{0, 2, 1}, [3]int64{1, 2, 1}, [3]int64{1, 2, 2}),
		"edges fall by U":      edges(3, [3]int64{1, 2, 1}, [3]int64{0, 1, 1}),
		"edges fall by V":      edges(3, [3]int64{0, 2, 1}, [3]int64{0, 1, 1}),
		"the last of many":     edges(4, [3]int64{0, 1, 1}, [3]int64{0, 2, 1}, [3]int64{1, 2, 1}, [3]int64{2, 3, 1}, [3]int64{1, 3, 1}),
	}
}

// full is a graph of 4096 vertices and m edges, the first ones in order, of the greatest weight.
func full(m int) api.Graph {
	g := api.Graph{N: 4096, E: make([]api.Edge, 0, m)}
	for u := range g.N {
		for v := u + 1; v < g.N && len(g.E) < m; v++ {
			g.E = append(g.E, api.Edge{U: u, V: v, W: api.MaxW - 1})
		}
	}
	return g
}

// The samples are what they are meant to be: right graphs, and systems in the plane.
func TestSamples(t *testing.T) {
	d := dice(1700)
	list := samples(14)
	for what, r := range map[string][][]int{
		"cube": nest(2, 4), "icosahedron": icosahedron(), "dodecahedron": dual(icosahedron()), "football": cornered(icosahedron()),
		"aztec": aztec(5), "braced grid": d.braced(7, 7, 60), "poles": poles(12), "copies": copies(3, wheel(5)),
	} {
		list = append(list, sample{what, of(r), r})
	}
	for _, s := range list {
		if k := rotation.Plane(s.g, s.r); k != api.OK || graph.Right(s.g) != api.OK {
			t.Fatalf("%s: %v, %v: kind %d", s.what, s.g, s.r, int(k))
		}
	}
}
