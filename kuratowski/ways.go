package kuratowski

import (
	"slices"

	"filigree/api"
	"filigree/graph"
)

// alone is the graph with these of its edges alone.
func alone(g api.Graph, in []int) (api.Graph, api.Kind) {
	if graph.Right(g) != api.OK {
		return api.Graph{}, api.BadArg
	}
	named := make([]bool, len(g.E))
	for _, place := range in {
		if place < 0 || place >= len(g.E) || named[place] {
			return api.Graph{}, api.BadArg
		}
		named[place] = true
	}
	var others []int
	for place, is := range named {
		if !is {
			others = append(others, place)
		}
	}
	return graph.Less(g, others), api.OK
}

// waysOf is all ways of a graph's edges, if each of these is on one.
func waysOf(g api.Graph) ([][]int, api.Kind) {
	near := graph.Near(g)
	if slices.ContainsFunc(near, func(list []int) bool { return len(list) == 1 }) {
		return nil, api.BadWitness
	}
	ways, on := walkAll(near)
	if on != len(g.E) {
		return nil, api.BadWitness
	}
	return ways, api.OK
}

// walkAll walks from each corner to each of its neighbours and on to the next corner. It answers the ways, each told
// once, and how many edges are on them. No vertex may have degree 1: so a walk goes on till it is at a corner.
func walkAll(near [][]int) (ways [][]int, on int) {
	var way []int
	walk := func(corner, neighbour int) {
		way = append(way[:0], corner, neighbour)
		for last := 1; len(near[way[last]]) == 2; last++ {
			way = append(way, other(near[way[last]], way[last-1]))
		}
	}
	// Corners rise, and so do the neighbours of each: as no two ways begin with the same two vertices, they are sorted.
	for v, list := range near {
		if len(list) < 3 {
			continue
		}
		for _, u := range list {
			if walk(v, u); isAsTold(way) {
				ways = append(ways, slices.Clone(way))
				on += len(way) - 1
			}
		}
	}
	return ways, on
}

// other is the one of two neighbours that it isn't.
func other(two []int, it int) int {
	if two[0] == it {
		return two[1]
	}
	return two[0]
}

// isAsTold tells whether a way goes as it is told: each is walked from both its ends, and one of the two walks is from the
// lesser end, or from the same end over the lesser neighbour.
func isAsTold(way []int) bool {
	last := len(way) - 1
	forth, back := [2]int{way[0], way[1]}, [2]int{way[last], way[last-1]}
	return slices.Compare(forth[:], back[:]) < 0
}
