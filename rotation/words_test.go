package rotation_test

import (
	"slices"

	"filigree/api"
)

// This file holds the chapter's section 'Words' itself: slow, and without a map.

// isSystem tells whether the lists are N, of each vertex its neighbours, each once.
func isSystem(g api.Graph, r [][]int) bool {
	if len(r) != g.N {
		return false
	}
	for v := range g.N {
		for u := range g.N {
			joined := slices.ContainsFunc(g.E, func(e api.Edge) bool { return e.U == min(u, v) && e.V == max(u, v) })
			times := 0
			for _, x := range r[v] {
				if x == u {
					times++
				}
			}
			if joined && times != 1 || !joined && times != 0 {
				return false
			}
		}
		if slices.ContainsFunc(r[v], func(x int) bool { return x < 0 || x >= g.N }) {
			return false
		}
	}
	return true
}

// lower compares darts by U, then V.
func lower(a, b api.Dart) int {
	if a.U != b.U {
		return a.U - b.U
	}
	return a.V - b.V
}

// behindOf is the dart behind one of a system.
func behindOf(r [][]int, d api.Dart) api.Dart {
	list := r[d.V]
	for i, u := range list {
		if u == d.U {
			return api.Dart{U: d.V, V: list[(i+1)%len(list)]}
		}
	}
	panic("no such dart")
}

// facesOf is each dart's round from its least dart on, each once, in the order of their first darts.
func facesOf(g api.Graph, r [][]int) [][]api.Dart {
	var faces [][]api.Dart
	for _, e := range g.E {
		for _, first := range []api.Dart{{U: e.U, V: e.V}, {U: e.V, V: e.U}} {
			face := []api.Dart{first}
			for d := behindOf(r, first); d != first; d = behindOf(r, d) {
				face = append(face, d)
			}
			if slices.MinFunc(face, lower) == first {
				faces = append(faces, face)
			}
		}
	}
	slices.SortFunc(faces, func(a, b []api.Dart) int { return lower(a[0], b[0]) })
	return faces
}

// leastOf is of each vertex the least one that it hangs together with.
func leastOf(g api.Graph) []int {
	least := upTo(g.N)
	for range g.N {
		for _, e := range g.E {
			least[e.U] = min(least[e.U], least[e.V])
			least[e.V] = least[e.U]
		}
	}
	return least
}

// numbersOf is each component's number, the component of the least vertex first.
func numbersOf(g api.Graph, r [][]int) []int {
	var list []int
	least := leastOf(g)
	for c := range g.N {
		if least[c] != c {
			continue
		}
		vertices, joins, faces := 0, 0, 0
		for v := range g.N {
			if least[v] == c {
				vertices++
			}
		}
		for _, e := range g.E {
			if least[e.U] == c {
				joins++
			}
		}
		for _, face := range facesOf(g, r) {
			if least[face[0].U] == c {
				faces++
			}
		}
		if joins == 0 {
			faces = 1
		}
		list = append(list, vertices-joins+faces)
	}
	return list
}

// canonOf is each list begun at each place, and of these the least one.
func canonOf(r [][]int) [][]int {
	lists := make([][]int, len(r))
	for v, list := range r {
		lists[v] = slices.Clone(list)
		for i := range list {
			if begun := slices.Concat(list[i:], list[:i]); slices.Compare(begun, lists[v]) < 0 {
				lists[v] = begun
			}
		}
	}
	return lists
}

// mirrorOf is each list, its last one first.
func mirrorOf(r [][]int) [][]int {
	lists := make([][]int, len(r))
	for v, list := range r {
		for i := len(list) - 1; i >= 0; i-- {
			lists[v] = append(lists[v], list[i])
		}
	}
	return lists
}
