package tjoin_test

import (
	"slices"

	"filigree/api"
)

// oddOf is what the words say of edges of a right multigraph: the vertices at which an odd number of them end.
func oddOf(m api.Graph, in []int) []int {
	var odd []int
	for v := range m.N {
		count := 0
		for _, place := range in {
			for _, end := range []int{m.E[place].U, m.E[place].V} {
				if end == v {
					count++
				}
			}
		}
		if count%2 == 1 {
			odd = append(odd, v)
		}
	}
	return odd
}

// risesOf tells whether each number is greater than the one ahead of it, and all are from 0 to n - 1.
func risesOf(list []int, n int) bool {
	for i, number := range list {
		if number < 0 || number > n-1 || i > 0 && number <= list[i-1] {
			return false
		}
	}
	return true
}

// checkOf is what P1401 says of a right multigraph, word by word.
func checkOf(m api.Graph, t, in []int) api.Kind {
	if !risesOf(t, m.N) {
		return api.BadArg
	}
	if !risesOf(in, len(m.E)) || !slices.Equal(oddOf(m, in), t) {
		return api.BadWitness
	}
	return api.OK
}

// sumOf is the sum of these edges' weights.
func sumOf(m api.Graph, in []int) int64 {
	sum := int64(0)
	for _, place := range in {
		sum += m.E[place].W
	}
	return sum
}

// maskOf is a set of small numbers as the bits of one.
func maskOf(list []int) int {
	mask := 0
	for _, number := range list {
		mask |= 1 << number
	}
	return mask
}

// listOf is the numbers whose bits are set, rising.
func listOf(mask int) []int {
	var list []int
	for number := 0; mask>>number > 0; number++ {
		if mask>>number&1 == 1 {
			list = append(list, number)
		}
	}
	return list
}

// leastOf is of each set of vertices the least sum of weights of all sets of edges whose odd vertices they are; -1: there is none.
func leastOf(m api.Graph) []int64 {
	least := slices.Repeat([]int64{-1}, 1<<m.N)
	var choose func(place, odd int, sum int64)
	choose = func(place, odd int, sum int64) {
		if place == len(m.E) {
			if least[odd] < 0 || sum < least[odd] {
				least[odd] = sum
			}
			return
		}
		e := m.E[place]
		choose(place+1, odd, sum)
		choose(place+1, odd^1<<e.U^1<<e.V, sum+e.W)
	}
	choose(0, 0, 0)
	return least
}

// spreadOf is how far each vertex is from this one: edges make shorter ways till none does any more. -1: there is no way.
func spreadOf(m api.Graph, from int) []int64 {
	dist := slices.Repeat([]int64{-1}, m.N)
	dist[from] = 0
	for again := true; again; {
		again = false
		for _, e := range m.E {
			for _, end := range [][2]int{{e.U, e.V}, {e.V, e.U}} {
				u, v := end[0], end[1]
				if dist[u] >= 0 && (dist[v] < 0 || dist[v] > dist[u]+e.W) {
					dist[v] = dist[u] + e.W
					again = true
				}
			}
		}
	}
	return dist
}

// pairedOf is the least sum of how far the vertices of t are apart, two by two, over all ways of making pairs; -1: there is none.
func pairedOf(m api.Graph, t []int) int64 {
	far := make([][]int64, len(t))
	for i, v := range t {
		far[i] = spreadOf(m, v)
	}
	known := map[int]int64{}
	var least func(left int) int64
	least = func(left int) int64 {
		if left == 0 {
			return 0
		}
		if sum, ok := known[left]; ok {
			return sum
		}
		list := listOf(left)
		best := int64(-1)
		for _, other := range list[1:] {
			apart := far[list[0]][t[other]]
			rest := least(left &^ (1<<list[0] | 1<<other))
			if apart >= 0 && rest >= 0 && (best < 0 || apart+rest < best) {
				best = apart + rest
			}
		}
		known[left] = best
		return best
	}
	return least(1<<len(t) - 1)
}

// partsOf is of each vertex the least one that there is a way to.
func partsOf(m api.Graph) []int {
	part := make([]int, m.N)
	for v := range part {
		part[v] = v
	}
	for again := true; again; {
		again = false
		for _, e := range m.E {
			if part[e.U] != part[e.V] {
				least := min(part[e.U], part[e.V])
				part[e.U], part[e.V] = least, least
				again = true
			}
		}
	}
	return part
}

// roundsOf is closed ways of a multigraph, as sets of places, of which all sets of edges without odd vertices are made: of each edge
// that is not in a tree the one that it closes.
func roundsOf(m api.Graph) [][]int {
	up := slices.Repeat([]int{-1}, m.N) // the place of the edge towards the root
	depth := slices.Repeat([]int{-1}, m.N)
	inTree := make([]bool, len(m.E))
	for root := range m.N {
		if depth[root] >= 0 {
			continue
		}
		depth[root] = 0
		for line := []int{root}; len(line) > 0; line = line[1:] {
			for place, e := range m.E {
				for _, end := range [][2]int{{e.U, e.V}, {e.V, e.U}} {
					if end[0] == line[0] && depth[end[1]] < 0 {
						depth[end[1]], up[end[1]], inTree[place] = depth[end[0]]+1, place, true
						line = append(line, end[1])
					}
				}
			}
		}
	}
	var rounds [][]int
	for place, e := range m.E {
		if inTree[place] {
			continue
		}
		round := []int{place}
		for u, v := e.U, e.V; u != v; {
			if depth[u] < depth[v] {
				u, v = v, u
			}
			round = append(round, up[u])
			u = m.E[up[u]].U + m.E[up[u]].V - u
		}
		slices.Sort(round)
		rounds = append(rounds, round)
	}
	return rounds
}

// differ is the places that are in just one of two lists, rising.
func differ(a, b []int) []int {
	var list []int
	for _, place := range a {
		if !slices.Contains(b, place) {
			list = append(list, place)
		}
	}
	for _, place := range b {
		if !slices.Contains(a, place) {
			list = append(list, place)
		}
	}
	slices.Sort(list)
	return list
}
