package cut

import (
	"filigree/api"
	"filigree/graph"
)

// spread is sides that change along each edge on the way from a component's first vertex, which is on the false one, but not along
// those that stay uncut.
func spread(g api.Graph, isUncut func(place int) bool) []bool {
	at := placesAt(g)
	side := make([]bool, g.N)
	met := make([]bool, g.N)
	for first := range g.N {
		if met[first] {
			continue
		}
		met[first] = true
		stack := []int{first}
		for len(stack) > 0 {
			v := stack[len(stack)-1]
			stack = stack[:len(stack)-1]
			for _, place := range at[v] {
				u := g.E[place].U + g.E[place].V - v
				if met[u] {
					continue
				}
				met[u] = true
				side[u] = side[v]
				if !isUncut(place) {
					side[u] = !side[v]
				}
				stack = append(stack, u)
			}
		}
	}
	return side
}

// placesAt is of each vertex the places of its edges, all in one list that is cut up.
func placesAt(g api.Graph) [][]int {
	at := make([][]int, g.N)
	rest := make([]int, 2*len(g.E))
	for v, degree := range graph.Degrees(g) {
		at[v], rest = rest[:0:degree], rest[degree:]
	}
	for place, e := range g.E {
		at[e.U] = append(at[e.U], place)
		at[e.V] = append(at[e.V], place)
	}
	return at
}
