package matching_test

import (
	"fmt"
	"math"
	"testing"

	"filigree/api"
	"filigree/matching"
)

// dice throws the same numbers in every run.
type dice uint64

func (d *dice) next() uint64 {
	*d ^= *d << 13
	*d ^= *d >> 7
	*d ^= *d << 17
	return uint64(*d)
}

func (d *dice) below(n int) int { return int(d.next() % uint64(n)) }

// order is the numbers below n in some order.
func (d *dice) order(n int) []int {
	list := make([]int, n)
	for i := range list {
		j := d.below(i + 1)
		list[i], list[j] = list[j], i
	}
	return list
}

// any is a multigraph of n vertices, 2 at least, and so many edges, whatever their ends, of cost 0.
func (d *dice) any(n, edges int) api.Graph {
	m := api.Graph{N: n}
	for range edges {
		u := d.below(n)
		m.E = append(m.E, api.Edge{U: u, V: (u + 1 + d.below(n-1)) % n})
	}
	return m
}

// paired is a multigraph of n vertices that has a perfect matching, somewhere among so many edges more.
func (d *dice) paired(n, edges int) api.Graph {
	m := d.any(n, edges)
	order := d.order(n)
	for i := 1; i < n; i += 2 {
		m.E = append(m.E, api.Edge{U: order[i-1], V: order[i]})
	}
	other, _ := d.named(m)
	return other
}

// named is a multigraph whose vertices are named anew, with its edges in another order, some of them turned; place tells the new
// place of each edge.
func (d *dice) named(m api.Graph) (other api.Graph, place []int) {
	name := d.order(m.N)
	place = d.order(len(m.E))
	other = api.Graph{N: m.N, E: make([]api.Edge, len(m.E))}
	for i, e := range m.E {
		ends := [2]int{name[e.U], name[e.V]}
		turn := d.below(2)
		other.E[place[i]] = api.Edge{U: ends[turn], V: ends[1-turn], W: e.W}
	}
	return other, place
}

// multi is the multigraph of n vertices and these edges: U, V and W of each.
func multi(n int, edges ...[3]int64) api.Graph {
	m := api.Graph{N: n}
	for _, e := range edges {
		m.E = append(m.E, api.Edge{U: int(e[0]), V: int(e[1]), W: e[2]})
	}
	return m
}

// way is n vertices in a row.
func way(n int) api.Graph {
	m := api.Graph{N: n}
	for v := 1; v < n; v++ {
		m.E = append(m.E, api.Edge{U: v - 1, V: v})
	}
	return m
}

// ring is a closed way of n vertices, 2 at least: of two there are two edges side by side.
func ring(n int) api.Graph {
	m := way(n)
	m.E = append(m.E, api.Edge{U: n - 1, V: 0})
	return m
}

// star is vertex 0 joined to n - 1 others.
func star(n int) api.Graph {
	m := api.Graph{N: n}
	for v := 1; v < n; v++ {
		m.E = append(m.E, api.Edge{U: v, V: 0})
	}
	return m
}

// grid is rows and columns of vertices, each joined to the next ones.
func grid(rows, columns int) api.Graph {
	m := api.Graph{N: rows * columns}
	for v := range m.N {
		if v%columns > 0 {
			m.E = append(m.E, api.Edge{U: v - 1, V: v})
		}
		if v >= columns {
			m.E = append(m.E, api.Edge{U: v, V: v - columns})
		}
	}
	return m
}

// all is n vertices, each joined to each.
func all(n int) api.Graph { return band(n, n) }

// band is n vertices, each joined to those whose numbers are at most so far away.
func band(n, far int) api.Graph {
	m := api.Graph{N: n}
	for v := range n {
		for u := max(0, v-far); u < v; u++ {
			m.E = append(m.E, api.Edge{U: u, V: v})
		}
	}
	return m
}

// nest is rings in rings: vertex 0, then again and again a ring over something that is there already and two vertices more, and a
// last vertex that hangs at one of them, at the outermost ring or deep within.
func (d *dice) nest(rings int) api.Graph {
	m := api.Graph{N: 1}
	for range rings {
		a, b := m.N, m.N+1
		m.E = append(m.E, api.Edge{U: d.below(m.N), V: a}, api.Edge{U: a, V: b}, api.Edge{U: b, V: d.below(m.N)})
		m.N += 2
	}
	m.E = append(m.E, api.Edge{U: d.below(m.N), V: m.N})
	m.N++
	return m
}

// beside is multigraphs as one, the vertices and the edges of each behind those of the one ahead of it.
func beside(parts ...api.Graph) api.Graph {
	var m api.Graph
	for _, part := range parts {
		for _, e := range part.E {
			m.E = append(m.E, api.Edge{U: e.U + m.N, V: e.V + m.N, W: e.W})
		}
		m.N += part.N
	}
	return m
}

// thrice is a multigraph with each edge three times, turned once.
func thrice(m api.Graph) api.Graph {
	other := api.Graph{N: m.N}
	for _, e := range m.E {
		other.E = append(other.E, e, api.Edge{U: e.V, V: e.U, W: e.W}, e)
	}
	return other
}

// priced is a multigraph with other costs.
func priced(m api.Graph, cost func(place int) int64) api.Graph {
	other := api.Graph{N: m.N, E: make([]api.Edge, len(m.E))}
	for place, e := range m.E {
		other.E[place] = api.Edge{U: e.U, V: e.V, W: cost(place)}
	}
	return other
}

// sample is a right multigraph.
type sample struct {
	what string
	m    api.Graph
}

// shapes is multigraphs of many kinds and at most so many vertices, all costs 0.
func (d *dice) shapes(most int) []sample {
	list := []sample{
		{"no vertex", api.Graph{}},
		{"a vertex alone", api.Graph{N: 1}},
		{"two vertices, no edge", api.Graph{N: 2}},
		{"two vertices, an edge", way(2)},
		{"two side by side", ring(2)},
		{"many side by side", thrice(ring(2))},
		{"two far apart", beside(all(3), all(3))},
		{"a bridge between odd ones", multi(6, [3]int64{0, 1}, [3]int64{1, 2}, [3]int64{2, 0}, [3]int64{3, 4}, [3]int64{4, 5}, [3]int64{5, 3}, [3]int64{0, 3})},
	}
	add := func(what string, m api.Graph) {
		if m.N <= most {
			list = append(list, sample{fmt.Sprint(what, " of ", m.N), m})
		}
	}
	for n := 3; n <= most; n++ {
		add("way", way(n))
		add("ring", ring(n))
		add("star", star(n))
		add("grid", grid(2, n/2))
		add("grid", grid(3, n/3))
		add("grid", grid(4, n/4))
		add("all", all(n))
		add("band", band(n, 2))
		add("band", band(n, 3))
		add("ring, thrice", thrice(ring(n)))
		add("any", d.any(n, n+n/2))
		add("many", d.any(n, 4*n))
		add("few", d.any(n, n/2))
		add("paired", d.paired(n/2*2, n/2))
		add("paired, many", d.paired(n/2*2, 3*n))
		add("nest", d.nest(n/2-1))
		add("nest with more", joined(d.nest(n/2-1), d.any(n/2*2, n/2)))
		add("several", beside(way(2), all(n-2)))
		add("several", beside(d.nest(n/4), ring(4), d.paired(n/4*2+2, n/2)))
		add("several, odd", beside(ring(3), d.any(n, n+n/2)))
		add("with one alone", beside(all(n-1), api.Graph{N: 1}))
	}
	return list
}

// joined is two multigraphs on the same vertices.
func joined(a, b api.Graph) api.Graph {
	m := api.Graph{N: max(a.N, b.N)}
	m.E = append(m.E, a.E...)
	m.E = append(m.E, b.E...)
	return m
}

// costs is ways of giving each edge of m a cost.
func (d *dice) costs(m api.Graph) []struct {
	what string
	cost func(place int) int64
} {
	const most = api.MaxCost - 1
	sign := func() int64 { return int64(1 - 2*d.below(2)) }
	return []struct {
		what string
		cost func(place int) int64
	}{
		{"0", func(int) int64 { return 0 }},
		{"1", func(int) int64 { return 1 }},
		{"-1", func(int) int64 { return -1 }},
		{"0 and 1", func(int) int64 { return int64(d.below(2)) }},
		{"few", func(int) int64 { return int64(d.below(7)) - 3 }},
		{"above 0", func(int) int64 { return 1 + int64(d.below(100)) }},
		{"below 0", func(int) int64 { return -1 - int64(d.below(100)) }},
		{"any", func(int) int64 { return sign() * int64(d.below(api.MaxCost)) }},
		{"very different", func(int) int64 { return sign() * (int64(1)<<d.below(40) - int64(d.below(2))) }},
		{"near to MaxCost", func(int) int64 { return most - int64(d.below(4)) }},
		{"near to -MaxCost", func(int) int64 { return -most + int64(d.below(4)) }},
		{"near to both", func(int) int64 { return sign() * (most - int64(d.below(4))) }},
		{"the greatest and the least", func(int) int64 { return sign() * most }},
		{"rising", func(place int) int64 { return int64(place) }},
		{"falling", func(place int) int64 { return -int64(place) }},
		{"products", func(place int) int64 { return int64(m.E[place].U+1) * int64(m.E[place].V+1) }},
		{"squares", func(place int) int64 { return squared(m.E[place]) }},
		{"squares below 0", func(place int) int64 { return -squared(m.E[place]) }},
		{"sums below 0", func(place int) int64 { return -int64(m.E[place].U + m.E[place].V) }},
	}
}

// squared is how far the names of an edge's ends are apart, twice.
func squared(e api.Edge) int64 { return int64(e.U-e.V) * int64(e.U-e.V) }

// samples is multigraphs of many kinds and at most so many vertices, with costs of many kinds, and under other names.
func samples(most int) []sample {
	d := dice(20261118)
	var list []sample
	for _, s := range d.shapes(most) {
		for _, by := range d.costs(s.m) {
			m := priced(s.m, by.cost)
			other, _ := d.named(m)
			list = append(list, sample{s.what + ", costs " + by.what, m}, sample{s.what + ", named anew, costs " + by.what, other})
		}
	}
	return list
}

// wrongs is multigraphs that are not right, and their kinds.
func wrongs() map[string]struct {
	m    api.Graph
	want api.Kind
} {
	type wrong = struct {
		m    api.Graph
		want api.Kind
	}
	return map[string]wrong{
		"N below 0":            {api.Graph{N: -1}, api.BadArg},
		"N below 0, even":      {api.Graph{N: -2}, api.BadArg},
		"least N":              {api.Graph{N: math.MinInt}, api.BadArg},
		"N below 0, an edge":   {multi(-1, [3]int64{0, 0, 0}), api.BadArg},
		"N beyond":             {api.Graph{N: api.MaxMatch + 1}, api.TooLarge},
		"N beyond, even":       {api.Graph{N: api.MaxMatch + 2}, api.TooLarge},
		"greatest N":           {api.Graph{N: math.MaxInt}, api.TooLarge},
		"N beyond, an edge":    {multi(api.MaxMatch+1, [3]int64{0, 1, 1}), api.TooLarge},
		"U below 0":            {multi(2, [3]int64{-1, 1, 1}), api.BadVertex},
		"V below 0":            {multi(2, [3]int64{1, -1, 1}), api.BadVertex},
		"U beyond":             {multi(2, [3]int64{2, 1, 1}), api.BadVertex},
		"V beyond":             {multi(2, [3]int64{0, 2, 1}), api.BadVertex},
		"the least U":          {multi(2, [3]int64{math.MinInt64, 0, 1}), api.BadVertex},
		"the greatest V":       {multi(2, [3]int64{0, math.MaxInt64, 1}), api.BadVertex},
		"a loop beyond":        {multi(2, [3]int64{2, 2, 1}), api.BadVertex},
		"no vertex, an edge":   {multi(0, [3]int64{0, 0, 0}), api.BadVertex},
		"a loop":               {multi(2, [3]int64{1, 1, 1}), api.Loop},
		"a loop of 0":          {multi(1, [3]int64{0, 0, 0}), api.Loop},
		"a loop of MaxCost":    {multi(2, [3]int64{0, 0, api.MaxCost}), api.Loop},
		"cost MaxCost":         {multi(2, [3]int64{0, 1, api.MaxCost}), api.BadWeight},
		"cost -MaxCost":        {multi(2, [3]int64{0, 1, -api.MaxCost}), api.BadWeight},
		"the greatest cost":    {multi(2, [3]int64{0, 1, math.MaxInt64}), api.BadWeight},
		"the least cost":       {multi(2, [3]int64{1, 0, math.MinInt64}), api.BadWeight},
		"the last of many":     {multi(2, [3]int64{0, 1, 1}, [3]int64{1, 0, 0}, [3]int64{0, 1, 2}, [3]int64{1, 1, 2}), api.Loop},
		"vertex, then others":  {multi(2, [3]int64{0, 2, 1}, [3]int64{1, 1, 1}, [3]int64{0, 1, api.MaxCost}), api.BadVertex},
		"loop, then others":    {multi(2, [3]int64{1, 1, 1}, [3]int64{0, 1, api.MaxCost}, [3]int64{0, 2, 1}), api.Loop},
		"cost, then others":    {multi(2, [3]int64{0, 1, api.MaxCost}, [3]int64{0, 2, 1}, [3]int64{1, 1, 1}), api.BadWeight},
		"odd N, a wrong edge":  {multi(3, [3]int64{0, 1, 1}, [3]int64{2, 2, 1}), api.Loop},
		"no matching, a wrong": {multi(4, [3]int64{0, 1, 1}, [3]int64{0, 2, -api.MaxCost}), api.BadWeight},
	}
}

// The samples are what they are meant to be: right multigraphs, with perfect matchings and without.
func TestSamples(t *testing.T) {
	with, without := 0, 0
	for _, s := range samples(10) {
		if k := matching.Right(s.m); k != api.OK {
			t.Fatalf("%s: %v: kind %d", s.what, s.m, int(k))
		}
		if _, there := leastOf(s.m); there {
			with++
		} else {
			without++
		}
	}
	if with < 1000 || without < 1000 {
		t.Errorf("%d with a perfect matching, %d without", with, without)
	}
}
