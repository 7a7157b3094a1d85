package levels_test

import (
	"slices"

	"filigree/api"
)

// This file holds the chapter's words themselves: slow, and without a line.

// apart is how far two vertices are from one another that don't hang together.
const apart = -1

// farOf is of each two vertices of how many edges the shortest way between them is.
func farOf(g api.Graph) [][]int {
	far := make([][]int, g.N)
	for v := range far {
		far[v] = slices.Repeat([]int{apart}, g.N)
		far[v][v] = 0
	}
	for _, e := range g.E {
		far[e.U][e.V], far[e.V][e.U] = 1, 1
	}
	for over := range g.N {
		for u := range g.N {
			for v := range g.N {
				if a, b := far[u][over], far[over][v]; a != apart && b != apart && (far[u][v] == apart || a+b < far[u][v]) {
					far[u][v] = a + b
				}
			}
		}
	}
	return far
}

// levelsOf is each vertex's level: how far the least vertex that hangs together with it is.
func levelsOf(g api.Graph) []int {
	list := make([]int, g.N)
	for v, far := range farOf(g) {
		least := slices.IndexFunc(far, func(edges int) bool { return edges != apart })
		list[v] = far[least]
	}
	return list
}

// isGone tells whether a level is shift, or so many times k + 1 above it.
func isGone(level, k, shift int) bool {
	gone := shift
	for gone < level {
		gone += k + 1
	}
	return gone == level
}

// keptOf is of each level whether its vertex stays.
func keptOf(levels []int, k, shift int) []bool {
	kept := make([]bool, len(levels))
	for v, level := range levels {
		kept[v] = !isGone(level, k, shift)
	}
	return kept
}

// piecesOf is the vertices that stay in classes of those that hang together without the others, the class of the least one first.
func piecesOf(g api.Graph, kept []bool) [][]int {
	far := farOf(without(g, kept))
	var pieces [][]int
	for v := range g.N {
		if !kept[v] {
			continue
		}
		at := slices.IndexFunc(pieces, func(piece []int) bool { return far[piece[0]][v] != apart })
		if at < 0 {
			pieces = append(pieces, []int{v})
		} else {
			pieces[at] = append(pieces[at], v)
		}
	}
	return pieces
}

// without is a graph without the edges at vertices that don't stay.
func without(g api.Graph, kept []bool) api.Graph {
	goes := func(e api.Edge) bool { return !kept[e.U] || !kept[e.V] }
	return api.Graph{N: g.N, E: slices.DeleteFunc(slices.Clone(g.E), goes)}
}

// firsts is each vertex's component's least vertex: components are joined edge by edge, each under its least one.
func firsts(g api.Graph) []int {
	under := upTo(g.N)
	first := func(v int) int {
		for under[v] != v {
			under[v] = under[under[v]]
			v = under[v]
		}
		return v
	}
	for _, e := range g.E {
		a, b := first(e.U), first(e.V)
		under[max(a, b)] = min(a, b)
	}
	list := make([]int, g.N)
	for v := range list {
		list[v] = first(v)
	}
	return list
}

// isLevels tells by the edges alone whether these are the levels: a component's least vertex has 0, every other one has a neighbour one
// level below it, and none has one that is further below.
func isLevels(g api.Graph, levels []int) bool {
	if len(levels) != g.N {
		return false
	}
	below := make([]int, g.N) // the lowest level of a neighbour
	copy(below, levels)
	for _, e := range g.E {
		below[e.U] = min(below[e.U], levels[e.V])
		below[e.V] = min(below[e.V], levels[e.U])
	}
	for v, first := range firsts(g) {
		if v == first && levels[v] != 0 || v != first && (levels[v] < 1 || below[v] != levels[v]-1) {
			return false
		}
	}
	return true
}

// left is the graph of the vertices that stay alone, and which ones they were.
func left(g api.Graph, kept []bool) (alone api.Graph, were []int) {
	number := make([]int, g.N)
	for v, stays := range kept {
		if stays {
			number[v] = len(were)
			were = append(were, v)
		}
	}
	alone.N = len(were)
	for _, e := range without(g, kept).E {
		alone.E = append(alone.E, api.Edge{U: number[e.U], V: number[e.V], W: e.W})
	}
	return alone, were
}
