package paths

import "filigree/api"

// Check answers OK, if dist tells how far each vertex is from this one, and via the last edges of shortest ways; else what is
// wrong. It does not search: that no edge makes a shorter way tells that no way is shorter than dist, and the ways that via
// tells are as short.
func Check(m api.Graph, from int, dist []int64, via []int) api.Kind {
	if k := Right(m); k != api.OK {
		return k
	}
	if !isVertex(m, from) {
		return api.BadVertex
	}
	if len(dist) != m.N || len(via) != m.N || dist[from] != 0 || via[from] != none {
		return api.BadWitness
	}
	for _, e := range m.E {
		if !isKept(e, dist) {
			return api.BadWitness
		}
	}
	for v := range m.N {
		if v != from && !isRightAt(m, v, dist, via) {
			return api.BadWitness
		}
	}
	// Where going by via ends, it has come to from: no other vertex that has a way is without a last edge.
	if goesRound(m, via) {
		return api.BadWitness
	}
	return api.OK
}

// isKept tells whether an edge's ends both have a way or both none, and neither is farther than the other one and the edge.
func isKept(e api.Edge, dist []int64) bool {
	u, v := dist[e.U], dist[e.V]
	if u < 0 || v < 0 {
		return u == v
	}
	// Neither is below 0, so their difference is within the type's range, whatever they are.
	return u-v <= e.W && v-u <= e.W
}

// isRightAt tells whether v has no way and nothing is told of one, or is farther than its last edge's other end by that edge's
// weight.
func isRightAt(m api.Graph, v int, dist []int64, via []int) bool {
	if dist[v] < 0 {
		return dist[v] == none && via[v] == none
	}
	if !endsAt(m, via[v], v) {
		return false
	}
	e := m.E[via[v]]
	return dist[other(e, v)] == dist[v]-e.W
}

// goesRound tells whether going by via from some vertex never ends, as it may over edges of weight 0.
func goesRound(m api.Graph, via []int) bool {
	walk := make([]int, m.N) // the number of the first walk that came by, from 1 on
	for start := range m.N {
		number := start + 1
		v := start
		for walk[v] == 0 && via[v] != none {
			walk[v] = number
			v = other(m.E[via[v]], v)
		}
		if walk[v] == number {
			return true
		}
	}
	return false
}
