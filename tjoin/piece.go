package tjoin

import (
	"slices"

	"filigree/api"
	"filigree/matching"
	"filigree/paths"
)

// piece is a component with vertices that are to be joined, as a multigraph of its own: searches from them go over nothing else.
type piece struct {
	m      api.Graph
	places []int // of each of its edges the place in the whole multigraph
	ends   []int // those of its vertices that are to be joined
}

// leaders is of each vertex the least one that hangs together with it.
func leaders(m api.Graph) []int {
	leader := make([]int, m.N)
	for v := range m.N {
		leader[v] = v
	}
	find := func(v int) int {
		for leader[v] != v {
			leader[v] = leader[leader[v]]
			v = leader[v]
		}
		return v
	}
	for _, e := range m.E {
		u, v := find(e.U), find(e.V)
		leader[max(u, v)] = min(u, v)
	}
	for v := range m.N {
		leader[v] = find(v)
	}
	return leader
}

// isOddSomewhere tells whether a component has an odd number of t's vertices.
func isOddSomewhere(leader, t []int) bool {
	odd := make([]bool, len(leader))
	for _, v := range t {
		odd[leader[v]] = !odd[leader[v]]
	}
	return slices.Contains(odd, true)
}

// split is the components with vertices of t.
func split(m api.Graph, t, leader []int) []*piece {
	of := make([]*piece, m.N) // of each leader its piece
	var pieces []*piece
	for _, v := range t {
		if of[leader[v]] == nil {
			of[leader[v]] = &piece{}
			pieces = append(pieces, of[leader[v]])
		}
	}
	name := make([]int, m.N) // of each vertex its number in its piece
	for v := range m.N {
		if p := of[leader[v]]; p != nil {
			name[v] = p.m.N
			p.m.N++
		}
	}
	for _, v := range t {
		p := of[leader[v]]
		p.ends = append(p.ends, name[v])
	}
	for place, e := range m.E {
		if p := of[leader[e.U]]; p != nil {
			p.m.E = append(p.m.E, api.Edge{U: name[e.U], V: name[e.V], W: e.W})
			p.places = append(p.places, place)
		}
	}
	return pieces
}

// join joins a piece's ends by the cheapest edges, and folds them into those that are taken. Cheapest ones are made of shortest
// ways between pairs of ends, and the pairs are a cheapest perfect matching.
func (p *piece) join(taken []bool) api.Kind {
	pairs, k := p.pairs()
	if k != api.OK {
		return k
	}
	in, _, k := matching.Perfect(pairs)
	if k != api.OK {
		return k
	}
	for _, place := range in {
		p.fold(pairs.E[place], taken)
	}
	return api.OK
}

// pairs is a multigraph of the ends, each pair of which has an edge that costs as much as they are apart.
func (p *piece) pairs() (api.Graph, api.Kind) {
	pairs := api.Graph{N: len(p.ends)}
	for i := range pairs.N {
		if i == 0 {
			continue // there is no end ahead of the first one, to make a pair with
		}
		dist, _, k := paths.From(p.m, p.ends[i])
		if k != api.OK {
			return api.Graph{}, k
		}
		for j := range i {
			apart := dist[p.ends[j]]
			if apart >= api.MaxCost {
				return api.Graph{}, api.TooLarge
			}
			pairs.E = append(pairs.E, api.Edge{U: i, V: j, W: apart})
		}
	}
	return pairs, api.OK
}

// fold turns what is taken along a shortest way between a pair of ends: edges that two ways share are needed by neither. The way is
// searched for anew, as all ways to all ends would be too much to keep.
func (p *piece) fold(pair api.Edge, taken []bool) {
	_, via, _ := paths.From(p.m, p.ends[pair.U])
	for _, place := range paths.Way(p.m, via, p.ends[pair.V]) {
		whole := p.places[place]
		taken[whole] = !taken[whole]
	}
}
