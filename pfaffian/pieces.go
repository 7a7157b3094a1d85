package pfaffian

import "filigree/api"

// piece is a component as a graph of its own, and a direction of its edges.
type piece struct {
	g     api.Graph
	along []bool
}

// piecesOf is the components' pieces. Vertices are named anew by their places in the component: these rise as the vertices do, so that the
// edges stay in order.
func piecesOf(g api.Graph, along []bool, components [][]int) []piece {
	component := numbersOf(g.N, components)
	name := make([]int, g.N)
	pieces := make([]piece, len(components))
	for i, vertices := range components {
		pieces[i].g.N = len(vertices)
		for at, v := range vertices {
			name[v] = at
		}
	}
	for place, e := range g.E {
		p := &pieces[component[e.U]]
		p.g.E = append(p.g.E, api.Edge{U: name[e.U], V: name[e.V]})
		p.along = append(p.along, along[place])
	}
	return pieces
}

// numbersOf is of each of n vertices the number of its component.
func numbersOf(n int, components [][]int) []int {
	number := make([]int, n)
	for i, vertices := range components {
		for _, v := range vertices {
			number[v] = i
		}
	}
	return number
}
