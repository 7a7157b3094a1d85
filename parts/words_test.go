package parts_test

import (
	"slices"

	"filigree/api"
)

// This file holds the chapter's section 'Words' itself: slow, and without a walk.

// hangs is of each two vertices whether they hang together, over edges and vertices that are not gone.
func hangs(g api.Graph, goneEdge, goneVertex int) [][]bool {
	t := make([][]bool, g.N)
	for v := range t {
		t[v] = make([]bool, g.N)
		t[v][v] = true
	}
	for place, e := range g.E {
		if place != goneEdge && e.U != goneVertex && e.V != goneVertex {
			t[e.U][e.V], t[e.V][e.U] = true, true
		}
	}
	for over := range g.N {
		for u := range g.N {
			for v := range g.N {
				t[u][v] = t[u][v] || t[u][over] && t[over][v]
			}
		}
	}
	return t
}

// classes is the numbers below n in classes, each rising, in the order of their least ones.
func classes(n int, same func(i, j int) bool) [][]int {
	var lists [][]int
	for j := range n {
		at := slices.IndexFunc(lists, func(l []int) bool { return same(l[0], j) })
		if at < 0 {
			lists = append(lists, []int{j})
		} else {
			lists[at] = append(lists[at], j)
		}
	}
	return lists
}

// componentsOf is the vertices that hang together.
func componentsOf(g api.Graph) [][]int {
	t := hangs(g, -1, -1)
	return classes(g.N, func(u, v int) bool { return t[u][v] })
}

// fallsApart tells whether two of these vertices, beside the one that is gone, don't hang together.
func fallsApart(vertices []int, gone int, t [][]bool) bool {
	for _, u := range vertices {
		for _, v := range vertices {
			if u != gone && v != gone && !t[u][v] {
				return true
			}
		}
	}
	return false
}

// cutsOf is the vertices without which their component falls apart.
func cutsOf(g api.Graph) []int {
	var list []int
	for _, component := range componentsOf(g) {
		for _, v := range component {
			if fallsApart(component, v, hangs(g, -1, v)) {
				list = append(list, v)
			}
		}
	}
	slices.Sort(list)
	return list
}

// bridgesOf is the places of the edges without which their component falls apart.
func bridgesOf(g api.Graph) []int {
	var list []int
	for place := range g.E {
		t := hangs(g, place, -1)
		if slices.ContainsFunc(componentsOf(g), func(c []int) bool { return fallsApart(c, -1, t) }) {
			list = append(list, place)
		}
	}
	return list
}

// pair is an edge's two ends, the lower one first.
func pair(u, v int) [2]int { return [2]int{min(u, v), max(u, v)} }

// closedWays is all closed ways without a vertex twice among n vertices, each as the set of its edges; each once for
// both directions and all beginnings, or more often.
func closedWays(n int) []map[[2]int]bool {
	var all []map[[2]int]bool
	var grow func(way []int)
	grow = func(way []int) {
		if len(way) >= 3 {
			edges := map[[2]int]bool{}
			for i, v := range way {
				edges[pair(v, way[(i+1)%len(way)])] = true
			}
			all = append(all, edges)
		}
		for v := way[0] + 1; v < n; v++ {
			if !slices.Contains(way, v) {
				grow(append(slices.Clone(way), v))
			}
		}
	}
	for v := range n {
		grow([]int{v})
	}
	return all
}

// blocksOf is the edges in classes: two that are the same, or that a closed way goes over.
func blocksOf(g api.Graph, ways []map[[2]int]bool) [][]int {
	there := map[[2]int]bool{}
	for _, e := range g.E {
		there[pair(e.U, e.V)] = true
	}
	ways = slices.DeleteFunc(slices.Clone(ways), func(way map[[2]int]bool) bool {
		for edge := range way {
			if !there[edge] {
				return true
			}
		}
		return false
	})
	return classes(len(g.E), func(i, j int) bool {
		a, b := pair(g.E[i].U, g.E[i].V), pair(g.E[j].U, g.E[j].V)
		return i == j || slices.ContainsFunc(ways, func(way map[[2]int]bool) bool { return way[a] && way[b] })
	})
}

// coloursOf is the colouring by two with the least vertex of each component false, found among all there are; false: there is none.
func coloursOf(g api.Graph) ([]bool, bool) {
	components := componentsOf(g)
	for set := range 1 << g.N {
		sides := make([]bool, g.N)
		for v := range sides {
			sides[v] = set>>v&1 == 1
		}
		least := func(c []int) bool { return sides[c[0]] }
		alike := func(e api.Edge) bool { return sides[e.U] == sides[e.V] }
		if !slices.ContainsFunc(components, least) && !slices.ContainsFunc(g.E, alike) {
			return sides, true
		}
	}
	return nil, false
}

// isOdd tells whether these vertices are a closed way of an odd number of g's edges, no vertex twice.
func isOdd(g api.Graph, way []int) bool {
	there := map[[2]int]bool{}
	for _, e := range g.E {
		there[pair(e.U, e.V)] = true
	}
	seen := map[int]bool{}
	for i, v := range way {
		if seen[v] || !there[pair(v, way[(i+1)%len(way)])] {
			return false
		}
		seen[v] = true
	}
	return len(way)%2 == 1 && len(way) >= 3
}
