package graph

import "filigree/api"

// Only answers g with the edges alone both of whose ends are kept.
func Only(g api.Graph, keep []bool) api.Graph {
	kept := func(v int) bool { return v < len(keep) && keep[v] }
	return staying(g, func(place int) bool { return kept(g.E[place].U) && kept(g.E[place].V) })
}

// Less answers g without the edges at these places.
func Less(g api.Graph, gone []int) api.Graph {
	if Right(g) != api.OK {
		return api.Graph{}
	}
	goes := make([]bool, len(g.E))
	for _, place := range gone {
		if isPlace(g, place) {
			goes[place] = true
		}
	}
	return staying(g, func(place int) bool { return !goes[place] })
}

// Weight answers the sum of the weights of the edges at these places.
func Weight(g api.Graph, in []int) (int64, api.Kind) {
	if Right(g) != api.OK {
		return 0, api.BadArg
	}
	taken := make([]bool, len(g.E))
	// MaxM weights, each below MaxW: no sum of them comes near the ends of an int64.
	var sum int64
	for _, place := range in {
		if !isPlace(g, place) || taken[place] {
			return 0, api.BadArg
		}
		taken[place] = true
		sum += g.E[place].W
	}
	return sum, api.OK
}

// staying is g with those of its edges whose place stays; the zero graph, if g is not right.
func staying(g api.Graph, stays func(place int) bool) api.Graph {
	if Right(g) != api.OK {
		return api.Graph{}
	}
	var edges []api.Edge
	for place, e := range g.E {
		if stays(place) {
			edges = append(edges, e)
		}
	}
	return api.Graph{N: g.N, E: edges}
}

// isPlace tells whether one of g's edges stands at this place.
func isPlace(g api.Graph, place int) bool {
	return place >= 0 && place < len(g.E)
}
