package tjoin_test

import (
	"fmt"
	"math"
	"testing"

	"filigree/api"
	"filigree/paths"
)

// dice throws the same numbers in every run.
type dice uint64

func (d *dice) next() uint64 {
	*d ^= *d << 13
	*d ^= *d >> 7
	*d ^= *d << 17
	return uint64(*d)
}

func (d *dice) below(n int) int { return int(d.next() % uint64(n)) }

// order is the numbers below n in some order.
func (d *dice) order(n int) []int {
	list := make([]int, n)
	for i := range list {
		j := d.below(i + 1)
		list[i], list[j] = list[j], i
	}
	return list
}

// some is some of the numbers below n, rising: each with a chance of 1 in so many.
func (d *dice) some(n, chance int) []int {
	var list []int
	for number := range n {
		if d.below(chance) == 0 {
			list = append(list, number)
		}
	}
	return list
}

// any is a multigraph of n vertices and so many edges, whatever their ends, with weights below most.
func (d *dice) any(n, edges int, most int64) api.Graph {
	m := api.Graph{N: n}
	for range edges {
		m.E = append(m.E, api.Edge{U: d.below(n), V: d.below(n), W: int64(d.below(int(most)))})
	}
	return m
}

// tree is a multigraph of n vertices, all of which hang together without a closed way.
func (d *dice) tree(n int) api.Graph {
	m := api.Graph{N: n}
	for v := 1; v < n; v++ {
		m.E = append(m.E, api.Edge{U: v, V: d.below(v), W: 1})
	}
	return m
}

// named is a multigraph whose vertices are named anew, with its edges in another order, some of them turned; name tells the new
// name of each vertex.
func (d *dice) named(m api.Graph) (other api.Graph, name []int) {
	name = d.order(m.N)
	other = api.Graph{N: m.N, E: make([]api.Edge, len(m.E))}
	for i, place := range d.order(len(m.E)) {
		e := m.E[i]
		ends := [2]int{name[e.U], name[e.V]}
		turn := d.below(2)
		other.E[place] = api.Edge{U: ends[turn], V: ends[1-turn], W: e.W}
	}
	return other, name
}

// multi is the multigraph of n vertices and these edges: U, V and W of each.
func multi(n int, edges ...[3]int64) api.Graph {
	m := api.Graph{N: n}
	for _, e := range edges {
		m.E = append(m.E, api.Edge{U: int(e[0]), V: int(e[1]), W: e[2]})
	}
	return m
}

// way is n vertices in a row.
func way(n int) api.Graph {
	m := api.Graph{N: n}
	for v := 1; v < n; v++ {
		m.E = append(m.E, api.Edge{U: v - 1, V: v, W: 1})
	}
	return m
}

// ring is a closed way of n vertices: of two there are two edges side by side, of one there is a loop.
func ring(n int) api.Graph {
	m := way(n)
	m.E = append(m.E, api.Edge{U: n - 1, V: 0, W: 1})
	return m
}

// star is vertex 0 joined to n - 1 others.
func star(n int) api.Graph {
	m := api.Graph{N: n}
	for v := 1; v < n; v++ {
		m.E = append(m.E, api.Edge{U: v, V: 0, W: 1})
	}
	return m
}

// grid is rows and columns of vertices, each joined to the next ones.
func grid(rows, columns int) api.Graph {
	m := api.Graph{N: rows * columns}
	for v := range m.N {
		if v%columns > 0 {
			m.E = append(m.E, api.Edge{U: v - 1, V: v, W: 1})
		}
		if v >= columns {
			m.E = append(m.E, api.Edge{U: v, V: v - columns, W: 1})
		}
	}
	return m
}

// all is n vertices, each joined to each.
func all(n int) api.Graph {
	m := api.Graph{N: n}
	for v := range n {
		for u := range v {
			m.E = append(m.E, api.Edge{U: u, V: v, W: 1})
		}
	}
	return m
}

// beside is multigraphs as one, the vertices and the edges of each behind those of the one ahead of it.
func beside(parts ...api.Graph) api.Graph {
	var m api.Graph
	for _, part := range parts {
		for _, e := range part.E {
			m.E = append(m.E, api.Edge{U: e.U + m.N, V: e.V + m.N, W: e.W})
		}
		m.N += part.N
	}
	return m
}

// twice is a multigraph with each edge twice, once turned.
func twice(m api.Graph) api.Graph {
	other := api.Graph{N: m.N}
	for _, e := range m.E {
		other.E = append(other.E, e, api.Edge{U: e.V, V: e.U, W: e.W})
	}
	return other
}

// looped is a multigraph with a loop at each vertex, the first ones ahead of all other edges, the rest behind them.
func looped(m api.Graph) api.Graph {
	other := api.Graph{N: m.N}
	for v := range m.N / 2 {
		other.E = append(other.E, api.Edge{U: v, V: v, W: 1})
	}
	other.E = append(other.E, m.E...)
	for v := m.N / 2; v < m.N; v++ {
		other.E = append(other.E, api.Edge{U: v, V: v, W: 1})
	}
	return other
}

// weighed is a multigraph with other weights.
func weighed(m api.Graph, weight func(place int) int64) api.Graph {
	other := api.Graph{N: m.N, E: make([]api.Edge, len(m.E))}
	for place, e := range m.E {
		other.E[place] = api.Edge{U: e.U, V: e.V, W: weight(place)}
	}
	return other
}

// sample is a right multigraph.
type sample struct {
	what string
	m    api.Graph
}

// shapes is multigraphs of many kinds, of some 3 times size vertices at most, all weights 1.
func (d *dice) shapes(size int) []sample {
	list := []sample{
		{"no vertex", api.Graph{}},
		{"a vertex alone", api.Graph{N: 1}},
		{"no edge", api.Graph{N: 5}},
		{"a loop", ring(1)},
		{"two side by side", ring(2)},
	}
	add := func(what string, n int, m api.Graph) { list = append(list, sample{fmt.Sprint(what, " of ", n), m}) }
	for n := 2; n <= size; n += 3 {
		add("way", n, way(n))
		add("ring", n, ring(n))
		add("star", n, star(n))
		add("grid", n, grid(n/4+1, 4))
		add("tree", n, d.tree(n))
		add("all", n, all(n/2+2))
		add("ring, twice", n, twice(ring(n)))
		add("grid, with loops", n, looped(grid(n/4+1, 4)))
		add("tree, twice, with loops", n, looped(twice(d.tree(n))))
		add("any", n, d.any(n, 2*n, 2))
		add("few", n, d.any(n, n/2, 2))
		add("many", n, d.any(n, 4*n, 2))
		add("several", n, beside(api.Graph{N: 2}, ring(n), looped(way(4)), api.Graph{N: 1}, d.tree(n), twice(star(n))))
	}
	return list
}

// weights is ways of giving each edge of m a weight.
func (d *dice) weights(m api.Graph) []struct {
	what   string
	weight func(place int) int64
} {
	return []struct {
		what   string
		weight func(place int) int64
	}{
		{"1", func(int) int64 { return 1 }},
		{"0", func(int) int64 { return 0 }},
		{"0 and 1", func(int) int64 { return int64(d.below(2)) }},
		{"few", func(int) int64 { return int64(d.below(5)) }},
		{"any", func(int) int64 { return int64(d.below(api.MaxW)) }},
		{"very different", func(int) int64 { return int64(1)<<d.below(31) - int64(d.below(2)) }},
		{"near to MaxW", func(int) int64 { return api.MaxW - 1 - int64(d.below(3)) }},
		{"0 and MaxW - 1", func(int) int64 { return int64(d.below(2)) * (api.MaxW - 1) }},
		{"rising", func(place int) int64 { return int64(place) }},
		{"squares", func(place int) int64 {
			apart := int64(m.E[place].U - m.E[place].V)
			return apart * apart
		}},
	}
}

// samples is multigraphs of many kinds and such sizes, with weights of many kinds, and under other names.
func samples(size int) []sample {
	d := dice(20261118)
	var list []sample
	for _, s := range d.shapes(size) {
		for _, by := range d.weights(s.m) {
			m := weighed(s.m, by.weight)
			other, _ := d.named(m)
			list = append(list, sample{s.what + ", weights " + by.what, m}, sample{s.what + ", named anew, weights " + by.what, other})
		}
	}
	return list
}

// evened is t, less the last of its vertices in each component that has an odd number of them.
func evened(m api.Graph, t []int) []int {
	part := partsOf(m)
	last := map[int]int{}
	count := map[int]int{}
	for _, v := range t {
		last[part[v]] = v
		count[part[v]]++
	}
	var list []int
	for _, v := range t {
		if count[part[v]]%2 == 0 || v != last[part[v]] {
			list = append(list, v)
		}
	}
	return list
}

// wrongs is multigraphs that are not right, and their kinds.
func wrongs() map[string]struct {
	m    api.Graph
	want api.Kind
} {
	type wrong = struct {
		m    api.Graph
		want api.Kind
	}
	return map[string]wrong{
		"N below 0":            {api.Graph{N: -1}, api.BadArg},
		"least N":              {api.Graph{N: math.MinInt}, api.BadArg},
		"N below 0, an edge":   {multi(-1, [3]int64{0, 0, 0}), api.BadArg},
		"N beyond":             {api.Graph{N: api.MaxN + 1}, api.TooLarge},
		"greatest N":           {api.Graph{N: math.MaxInt}, api.TooLarge},
		"N beyond, an edge":    {multi(api.MaxN+1, [3]int64{0, 1, 1}), api.TooLarge},
		"U below 0":            {multi(2, [3]int64{-1, 1, 1}), api.BadVertex},
		"V below 0":            {multi(2, [3]int64{1, -1, 1}), api.BadVertex},
		"U beyond":             {multi(2, [3]int64{2, 1, 1}), api.BadVertex},
		"V beyond":             {multi(2, [3]int64{0, 2, 1}), api.BadVertex},
		"the least U":          {multi(2, [3]int64{math.MinInt64, 0, 1}), api.BadVertex},
		"the greatest V":       {multi(2, [3]int64{0, math.MaxInt64, 1}), api.BadVertex},
		"a loop beyond":        {multi(2, [3]int64{2, 2, 1}), api.BadVertex},
		"no vertex, an edge":   {multi(0, [3]int64{0, 0, 0}), api.BadVertex},
		"weight below 0":       {multi(2, [3]int64{0, 1, -1}), api.NegativeWeight},
		"a loop below 0":       {multi(2, [3]int64{1, 1, -1}), api.NegativeWeight},
		"weight -MaxW":         {multi(2, [3]int64{0, 1, -api.MaxW}), api.NegativeWeight},
		"the least weight":     {multi(2, [3]int64{0, 1, math.MinInt64}), api.NegativeWeight},
		"weight MaxW":          {multi(2, [3]int64{0, 1, api.MaxW}), api.BadWeight},
		"a loop of MaxW":       {multi(2, [3]int64{1, 1, api.MaxW}), api.BadWeight},
		"the greatest weight":  {multi(2, [3]int64{0, 1, math.MaxInt64}), api.BadWeight},
		"the last of many":     {multi(2, [3]int64{0, 1, 1}, [3]int64{1, 0, 0}, [3]int64{1, 1, 2}, [3]int64{0, 1, -7}), api.NegativeWeight},
		"vertex, then weights": {multi(2, [3]int64{0, 2, 1}, [3]int64{0, 1, -1}, [3]int64{0, 1, api.MaxW}), api.BadVertex},
		"below 0, then vertex": {multi(2, [3]int64{0, 1, -1}, [3]int64{0, 1, api.MaxW}, [3]int64{0, 2, 1}), api.NegativeWeight},
		"beyond, then below 0": {multi(2, [3]int64{0, 1, api.MaxW}, [3]int64{0, 1, -1}, [3]int64{0, 2, 1}), api.BadWeight},
	}
}

// The samples are what they are meant to be: right multigraphs.
func TestSamples(t *testing.T) {
	for _, s := range samples(14) {
		if k := paths.Right(s.m); k != api.OK {
			t.Fatalf("%s: %v: kind %d", s.what, s.m, int(k))
		}
	}
}
