package faces_test

import (
	"slices"
	"testing"

	"filigree/api"
	"filigree/faces"
	"filigree/rotation"
)

// This file holds the chapter's words themselves: slow, and without a map.

// faceOf is the place in rotation.Faces of the face that has a dart.
func faceOf(rounds [][]api.Dart, d api.Dart) int {
	return slices.IndexFunc(rounds, func(round []api.Dart) bool { return slices.Contains(round, d) })
}

// sidesOf is of each edge the number of the face of the dart U to V, and of V to U.
func sidesOf(g api.Graph, r [][]int) [][2]int {
	rounds, _ := rotation.Faces(g, r)
	var list [][2]int
	for _, e := range g.E {
		list = append(list, [2]int{faceOf(rounds, api.Dart{U: e.U, V: e.V}), faceOf(rounds, api.Dart{U: e.V, V: e.U})})
	}
	return list
}

// lengthsOf is of each face how many darts it has.
func lengthsOf(g api.Graph, r [][]int) []int {
	rounds, _ := rotation.Faces(g, r)
	var list []int
	for _, round := range rounds {
		list = append(list, len(round))
	}
	return list
}

// dualOf is the multigraph whose vertices are the faces.
func dualOf(g api.Graph, r [][]int) api.Graph {
	h := api.Graph{N: len(lengthsOf(g, r))}
	for i, side := range sidesOf(g, r) {
		h.E = append(h.E, api.Edge{U: side[0], V: side[1], W: g.E[i].W})
	}
	return h
}

// leastOf is of each vertex the least one that it hangs together with.
func leastOf(g api.Graph) []int {
	least := upTo(g.N)
	for changed := true; changed; {
		changed = false
		for _, e := range g.E {
			low := min(least[e.U], least[e.V])
			changed = changed || least[e.U] != low || least[e.V] != low
			least[e.U], least[e.V] = low, low
		}
	}
	return least
}

// othersOf is the least vertex of each component, without the first one's, rising.
func othersOf(g api.Graph) []int {
	var list []int
	for v, least := range leastOf(g) {
		if v == least && v > 0 {
			list = append(list, v)
		}
	}
	return list
}

// joinedOf is the graph with an edge of weight 0 from vertex 0, which is the first component's least one, to each other
// component's least one; and its lists.
func joinedOf(g api.Graph, r [][]int) (api.Graph, [][]int) {
	h := api.Graph{N: g.N}
	lists := make([][]int, len(r))
	for v, list := range r {
		lists[v] = slices.Clone(list)
	}
	others := othersOf(g)
	for _, v := range others {
		lists[0] = append(lists[0], v)
		lists[v] = append(lists[v], 0)
	}
	// Edges from 0 stand ahead of all others: each new one goes ahead of the first one of them whose V is greater.
	for _, e := range g.E {
		for len(others) > 0 && (e.U > 0 || e.V > others[0]) {
			h.E = append(h.E, api.Edge{U: 0, V: others[0]})
			others = others[1:]
		}
		h.E = append(h.E, e)
	}
	for _, v := range others {
		h.E = append(h.E, api.Edge{U: 0, V: v})
	}
	return h, lists
}

// same tells whether two graphs have the same vertices and the same edges in the same order.
func same(a, b api.Graph) bool { return a.N == b.N && slices.Equal(a.E, b.E) }

// isAsTheWords fails the test unless all answers are the ones of the words.
func isAsTheWords(t *testing.T, what string, g api.Graph, r [][]int) {
	t.Helper()
	sides, k := faces.Sides(g, r)
	if want := sidesOf(g, r); k != api.OK || !slices.Equal(sides, want) {
		t.Fatalf("%s: Sides of %v, %v: %v, kind %d, not %v", what, g, r, sides, int(k), want)
	}
	lengths, k := faces.Lengths(g, r)
	if want := lengthsOf(g, r); k != api.OK || !slices.Equal(lengths, want) {
		t.Fatalf("%s: Lengths of %v, %v: %v, kind %d, not %v", what, g, r, lengths, int(k), want)
	}
	dual, k := faces.Dual(g, r)
	if want := dualOf(g, r); k != api.OK || !same(dual, want) {
		t.Fatalf("%s: Dual of %v, %v: %v, kind %d, not %v", what, g, r, dual, int(k), want)
	}
	joined, lists, k := faces.Joined(g, r)
	if want, order := joinedOf(g, r); k != api.OK || !same(joined, want) || !slices.EqualFunc(lists, order, slices.Equal) {
		t.Fatalf("%s: Joined of %v, %v: %v, %v, kind %d, not %v, %v", what, g, r, joined, lists, int(k), want, order)
	}
}

// P1001, P1002, P1003: against the words, on systems of many kinds.
func TestKinds(t *testing.T) {
	for _, s := range inPlane() {
		isAsTheWords(t, s.what, s.g, s.r)
	}
}
