package planar

import (
	"slices"
	"sort"

	"filigree/api"
)

// places is those of all edges of a graph.
func places(g api.Graph) []int {
	list := make([]int, len(g.E))
	for i := range list {
		list[i] = i
	}
	return list
}

// placer is what tells the places of the edges along a list of vertices.
func placer(g api.Graph) func(list []int) []int {
	place := make(map[api.Dart]int, len(g.E))
	for i, e := range g.E {
		place[api.Dart{U: e.U, V: e.V}] = i
	}
	return func(list []int) []int {
		in := make([]int, len(list)-1)
		for i, v := range list[1:] {
			in[i] = place[api.Dart{U: min(list[i], v), V: max(list[i], v)}]
		}
		return in
	}
}

// some is a graph with these of its edges alone, told by their places, rising.
func some(g api.Graph, in []int) api.Graph {
	edges := make([]api.Edge, len(in))
	for i, place := range in {
		edges[i] = g.E[place]
	}
	return api.Graph{N: g.N, E: edges}
}

// picked is what stands at these places of a list.
func picked(list, in []int) []int {
	there := make([]int, len(in))
	for i, place := range in {
		there[i] = list[place]
	}
	return there
}

// rising is the numbers of all these lists, rising, each once.
func rising(lists ...[]int) []int {
	all := slices.Concat(lists...)
	slices.Sort(all)
	return slices.Compact(all)
}

// less is the numbers of a list that are not in another one.
func less(list, gone []int) []int {
	gone = rising(gone)
	return slices.DeleteFunc(slices.Clone(list), func(number int) bool {
		_, goes := slices.BinarySearch(gone, number)
		return goes
	})
}

// fewest is the least count, from 1 on, of which it holds. It holds of most, and of each count above one of which it does.
func fewest(most int, holds func(count int) bool) int {
	return 1 + sort.Search(most-1, func(i int) bool { return holds(i + 1) })
}
