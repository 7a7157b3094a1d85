package matching

import (
	"slices"

	"filigree/api"
)

// side is where a node stands in the trees that grow from the vertices without a partner.
type side int

const (
	free  side = iota // in no tree
	outer             // an even number of nodes away from its tree's root: its numbers shrink
	inner             // an odd number: its numbers grow
)

// unused is the holder of a blossom's number that no blossom has.
const unused = -2

// link is an edge between two nodes, by its ends.
type link struct{ from, to int }

// turned is the same edge in the other direction.
func (l link) turned() link { return link{l.to, l.from} }

// missing is the link where there is no edge.
func missing() link { return link{none, none} }

// isThere tells whether there is an edge.
func (l link) isThere() bool { return l.from != none }

// node is a vertex, or a blossom: an odd ring of nodes that counts as one.
type node struct {
	side    side
	via     link   // the edge by which it came into its tree; missing of a root
	nearest link   // of the edges from outer nodes the one with the least slack
	holder  int    // the blossom that it is a part of
	base    int    // the vertex of it whose partner is not in it
	parts   []int  // of a blossom: its nodes, the base's one first, then round
	joins   []link // of each part the edge to the next one
	z       int64  // of a blossom: Z of the proof
}

// forest is a matching that grows, with numbers that prove it the cheapest one of its size.
type forest struct {
	m     api.Graph
	nodes []node    // the vertices, then the blossoms
	spare []int     // the numbers of nodes that no blossom has
	y     []int64   // Y of the proof
	mate  []int     // of each vertex its partner
	top   []int     // of each vertex the outermost node that has it
	place [][]int   // of each pair of vertices the place of the cheapest edge
	twice [][]int64 // of each such pair 2 W
	best  [][]link  // of each pair of nodes, of which neither has the other one, the edge with the least slack
}

// newForest is of vertices without partners, with numbers that all edges allow.
func newForest(m api.Graph) *forest {
	// Each blossom has at least three parts, so that there are never more of them than half of the vertices.
	count := m.N + m.N/2
	f := &forest{
		m:     m,
		nodes: make([]node, count),
		y:     slices.Repeat([]int64{highest(m)}, m.N),
		mate:  slices.Repeat([]int{none}, m.N),
		top:   make([]int, m.N),
		place: cheapest(m),
		twice: square(m.N, int64(0)),
		best:  square(count, missing()),
	}
	for v := range m.N {
		f.nodes[v] = node{holder: none, base: v}
		f.top[v] = v
	}
	for x := m.N; x < count; x++ {
		f.retire(x)
	}
	f.lay()
	return f
}

// lay tells of each pair of vertices with an edge what its cheapest one is like.
func (f *forest) lay() {
	for u, places := range f.place {
		for v, place := range places {
			if place != none {
				f.twice[u][v] = 2 * f.m.E[place].W
				f.best[u][v] = link{u, v}
			}
		}
	}
}

// retire takes a number off its blossom, if it has one, for another one to have it.
func (f *forest) retire(x int) {
	f.nodes[x] = node{holder: unused}
	f.spare = append(f.spare, x)
}

// square is n lists of n items, all of them the same.
func square[T any](n int, item T) [][]T {
	rows := make([][]T, n)
	for i := range rows {
		rows[i] = slices.Repeat([]T{item}, n)
	}
	return rows
}

// cheapest is of each pair of vertices the place of the cheapest edge between them, the first one of several.
func cheapest(m api.Graph) [][]int {
	place := square(m.N, none)
	for i, e := range m.E {
		if old := place[e.U][e.V]; old == none || e.W < m.E[old].W {
			place[e.U][e.V], place[e.V][e.U] = i, i
		}
	}
	return place
}

// highest is the least number that all vertices may begin with. They begin with the same one, since then the numbers of all outer
// vertices stay even, or odd, together, and half of the slack between two of them is whole.
func highest(m api.Graph) int64 {
	most := int64(-api.MaxCost)
	for _, e := range m.E {
		most = max(most, -e.W)
	}
	return most
}

// isTop tells whether a node is in no other one.
func (f *forest) isTop(x int) bool { return f.nodes[x].holder == none }

// slack is how much more than needed the numbers of an edge between two outermost nodes are.
func (f *forest) slack(l link) int64 {
	return f.y[l.from] + f.y[l.to] + f.twice[l.from][l.to]
}

// isBetter tells whether there is an edge, with less slack than another one that may be missing.
func (f *forest) isBetter(l, other link) bool {
	return l.isThere() && (!other.isThere() || f.slack(l) < f.slack(other))
}

// offer takes an edge from an outer node as x's nearest one, if it is that.
func (f *forest) offer(x int, l link) {
	if f.isBetter(l, f.nodes[x].nearest) {
		f.nodes[x].nearest = l
	}
}

// matching is the places of the edges between partners, rising.
func (f *forest) matching() []int {
	var in []int
	for v := range f.m.N {
		if v < f.mate[v] {
			in = append(in, f.place[v][f.mate[v]])
		}
	}
	slices.Sort(in)
	return in
}

// proof is the numbers, with those blossoms that count for something.
func (f *forest) proof() api.Proof {
	p := api.Proof{Y: f.y}
	for x := range len(f.nodes) {
		if f.nodes[x].z == 0 {
			continue
		}
		var list []int
		f.each(x, func(v int) { list = append(list, v) })
		slices.Sort(list)
		p.B = append(p.B, api.Blossom{In: list, Z: f.nodes[x].z})
	}
	return p
}
