package levels

import (
	"filigree/api"
	"filigree/graph"
)

// unmet is the level of a vertex that none has spread to yet.
const unmet = -1

// spread is each vertex's level. Vertices are gone through from the least one on, so that one that is unmet then is its component's
// least; from it levels spread over a line, in which no vertex stands ahead of one of a lower level.
func spread(g api.Graph) []int {
	near := graph.Near(g)
	levels := make([]int, g.N)
	for v := range levels {
		levels[v] = unmet
	}
	line := make([]int, 0, g.N)
	for first := range g.N {
		if levels[first] != unmet {
			continue
		}
		levels[first] = 0
		line = append(line[:0], first)
		for at := 0; at < len(line); at++ {
			v := line[at]
			for _, u := range near[v] {
				if levels[u] == unmet {
					levels[u] = levels[v] + 1
					line = append(line, u)
				}
			}
		}
	}
	return levels
}
