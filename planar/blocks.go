package planar

import (
	"slices"

	"filigree/api"
	"filigree/graph"
	"filigree/parts"
)

// block is a block as a graph of its own.
type block struct {
	g     api.Graph
	names []int // which vertices of the whole graph its own ones are, rising
}

// drawn is a system in the plane of a right graph; or else the places of a block that has none.
func drawn(g api.Graph) (r [][]int, bad []int) {
	r = make([][]int, g.N)
	bad = drawEach(g, func(b block, d *drawing) {
		// Blocks that meet in a vertex stand side by side around it: so each of them lies within a face of the others.
		for v, order := range d.orders() {
			for _, u := range order {
				r[b.names[v]] = append(r[b.names[v]], b.names[u])
			}
		}
	})
	if len(bad) > 0 {
		return nil, bad
	}
	return r, nil
}

// undrawable is the places of a block of a right graph that cannot be drawn; none: all of them can.
func undrawable(g api.Graph) []int {
	return drawEach(g, func(block, *drawing) {})
}

// drawEach draws a right graph's blocks one by one and tells them. With the first one that cannot be drawn it ends, and
// answers the places of its edges.
func drawEach(g api.Graph, tell func(b block, d *drawing)) []int {
	cut := cutter(g)
	for _, places := range parts.Blocks(g) {
		b := cut(places)
		d := draw(b.g)
		if d == nil {
			return places
		}
		tell(b, d)
	}
	return nil
}

// cutter is what cuts edges out of a right graph, told by their places, rising: with the vertices alone that they end at.
// There may be many blocks: what it needs for each vertex of the graph is made once.
func cutter(g api.Graph) func(places []int) block {
	const unseen = -1
	numbers := make([]int, g.N)
	for v := range numbers {
		numbers[v] = unseen
	}
	return func(places []int) block {
		var names []int
		for _, place := range places {
			for _, v := range [2]int{g.E[place].U, g.E[place].V} {
				if numbers[v] == unseen {
					numbers[v] = 0
					names = append(names, v)
				}
			}
		}
		// Names rise: so do the edges under their new names, and what is cut out is right.
		slices.Sort(names)
		for number, v := range names {
			numbers[v] = number
		}
		edges := make([]api.Edge, len(places))
		for i, place := range places {
			edges[i] = api.Edge{U: numbers[g.E[place].U], V: numbers[g.E[place].V]}
		}
		for _, v := range names {
			numbers[v] = unseen
		}
		return block{api.Graph{N: len(names), E: edges}, names}
	}
}

// draw is a drawing of a block; nil: it has none.
func draw(g api.Graph) *drawing {
	// No graph in the plane has more edges.
	if g.N > 2 && len(g.E) > 3*g.N-6 {
		return nil
	}
	d := &drawing{
		tree:  walked(graph.Near(g)),
		pairs: make(map[[2]int]int),
		spots: make([][2]int, g.N),
	}
	if g.N > 2 && !d.grow() {
		return nil
	}
	return d
}
