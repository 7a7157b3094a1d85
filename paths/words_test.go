package paths_test

import (
	"slices"

	"filigree/api"
)

// ends is the two ends of an edge, each with the other one.
func ends(e api.Edge) [][2]int { return [][2]int{{e.U, e.V}, {e.V, e.U}} }

// leastOf is each vertex's Dist by the words: the least sum of weights of all ways that come by no vertex twice.
func leastOf(m api.Graph, from int) []int64 {
	least := make([]int64, m.N)
	for v := range least {
		least[v] = -1
	}
	seen := make([]bool, m.N)
	var walk func(v int, sum int64)
	walk = func(v int, sum int64) {
		if least[v] < 0 || sum < least[v] {
			least[v] = sum
		}
		seen[v] = true
		for _, e := range m.E {
			for _, end := range ends(e) {
				if end[0] == v && !seen[end[1]] {
					walk(end[1], sum+e.W)
				}
			}
		}
		seen[v] = false
	}
	walk(from, 0)
	return least
}

// spreadOf is each vertex's Dist: edges make shorter ways till none does any more.
func spreadOf(m api.Graph, from int) []int64 {
	dist := make([]int64, m.N)
	for v := range dist {
		dist[v] = -1
	}
	dist[from] = 0
	for again := true; again; {
		again = false
		for _, e := range m.E {
			for _, end := range ends(e) {
				u, v := end[0], end[1]
				if dist[u] >= 0 && (dist[v] < 0 || dist[v] > dist[u]+e.W) {
					dist[v] = dist[u] + e.W
					again = true
				}
			}
		}
	}
	return dist
}

// checkOf is what P1203 says of a right multigraph and one of its vertices, word by word; least is each vertex's Dist.
func checkOf(m api.Graph, from int, least, dist []int64, via []int) api.Kind {
	if len(dist) != m.N || len(via) != m.N {
		return api.BadWitness
	}
	if dist[from] != 0 || via[from] != -1 {
		return api.BadWitness
	}
	for v := range m.N {
		if v == from {
			continue
		}
		if least[v] == -1 && (dist[v] != -1 || via[v] != -1) {
			return api.BadWitness
		}
		if least[v] != -1 && (dist[v] != least[v] || !isLast(m, least, via[v], v)) {
			return api.BadWitness
		}
	}
	for v := range m.N {
		if least[v] != -1 && !comesTo(m, via, v, from) {
			return api.BadWitness
		}
	}
	return api.OK
}

// isLast tells whether there is an edge at this place that ends at v, with its other end's Dist less by its weight.
func isLast(m api.Graph, least []int64, place, v int) bool {
	if place < 0 || place >= len(m.E) {
		return false
	}
	e := m.E[place]
	return slices.ContainsFunc(ends(e), func(end [2]int) bool { return end[0] == v && least[end[1]] == least[v]-e.W })
}

// comesTo tells whether going by via from v comes to this vertex within N edges. Each via is an edge of its vertex's.
func comesTo(m api.Graph, via []int, v, from int) bool {
	for range m.N {
		if v == from {
			return true
		}
		v = m.E[via[v]].U + m.E[via[v]].V - v
	}
	return v == from
}

// wayOf is what P1204 says of a right multigraph, word by word.
func wayOf(m api.Graph, via []int, v int) []int {
	if v < 0 || v >= m.N {
		return nil
	}
	var back []int
	for len(back) < m.N {
		if v >= len(via) || via[v] == -1 {
			break
		}
		place := via[v]
		if place < 0 || place >= len(m.E) {
			return nil
		}
		e := m.E[place]
		if e.U != v && e.V != v {
			return nil
		}
		back = append([]int{place}, back...)
		v = e.U + e.V - v
	}
	return back
}
