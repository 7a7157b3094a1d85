package graph

import (
	"slices"

	"filigree/api"
)

// Find answers the place of the edge between u and v, in either order, or -1.
func Find(g api.Graph, u, v int) int {
	if Right(g) != api.OK {
		return -1
	}
	place, found := slices.BinarySearchFunc(g.E, api.Edge{U: min(u, v), V: max(u, v)}, byEnds)
	if !found {
		return -1
	}
	return place
}

// Near answers each vertex's neighbours, rising.
func Near(g api.Graph) [][]int {
	if Right(g) != api.OK {
		return nil
	}
	near := make([][]int, g.N)
	for v, degree := range Degrees(g) {
		near[v] = make([]int, 0, degree)
	}
	// Edges rise by U, then V: those that end at a vertex all stand ahead of those that begin there, so its neighbours come rising.
	for _, e := range g.E {
		near[e.U] = append(near[e.U], e.V)
		near[e.V] = append(near[e.V], e.U)
	}
	return near
}

// Degrees answers how many neighbours each vertex has.
func Degrees(g api.Graph) []int {
	if Right(g) != api.OK {
		return nil
	}
	degrees := make([]int, g.N)
	for _, e := range g.E {
		degrees[e.U]++
		degrees[e.V]++
	}
	return degrees
}
