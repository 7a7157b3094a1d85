package parts

import (
	"filigree/api"
	"filigree/graph"
)

// link is an edge as it is seen from one of its ends.
type link struct{ to, place int }

// step is a vertex on the way that is being walked.
type step struct {
	v, by int // the vertex, and the place of the edge that led there
	next  int // which of its links is looked at next
	low   int // the least depth that an edge from it, or from beyond it, leads back to
	open  int // how many edges were open when it was come to
}

// walk is what is learned by going over a graph, always on to a new vertex as long as there is one.
type walk struct {
	links [][]link // of each vertex

	// Of each vertex: the least one of its component, the one it was come from (-1: none), and how many edges lie
	// between it and the least one on the way that was gone (-1: not seen yet).
	root, from, depth []int
	// Of each edge: the place of one edge of its block, the same for all of them.
	block []int

	path []step // from the root to where the walk is
	open []int  // the edges whose block is not known yet
}

// walked is a walk over all of g, which is right.
func walked(g api.Graph) *walk {
	w := &walk{
		links: linked(g),
		root:  make([]int, g.N), from: make([]int, g.N), depth: make([]int, g.N),
		block: make([]int, len(g.E)),
	}
	for v := range w.depth {
		w.depth[v] = -1
	}
	fromEach(g.N, w.start)
	return w
}

// fromEach walks from each of n vertices, the least one first: so each component is come into at its least one.
func fromEach(n int, start func(root int)) {
	for v := range n {
		start(v)
	}
}

// linked is the links of each vertex, all in one list that is cut up.
func linked(g api.Graph) [][]link {
	links := make([][]link, g.N)
	rest := make([]link, 2*len(g.E))
	for v, degree := range graph.Degrees(g) {
		links[v], rest = rest[:0:degree], rest[degree:]
	}
	for place, e := range g.E {
		links[e.U] = append(links[e.U], link{e.V, place})
		links[e.V] = append(links[e.V], link{e.U, place})
	}
	return links
}

// start walks over the component of root, unless it has been seen.
func (w *walk) start(root int) {
	if w.depth[root] >= 0 {
		return
	}
	w.root[root], w.from[root], w.depth[root] = root, -1, 0
	w.path = append(w.path, step{v: root, by: -1})
	for len(w.path) > 0 {
		top := &w.path[len(w.path)-1]
		if top.next == len(w.links[top.v]) {
			w.leave()
			continue
		}
		top.next++
		w.look(top, w.links[top.v][top.next-1])
	}
}

// look takes one link of the vertex on top: it leads to a new vertex, or back. Each edge leads back just from its deeper
// end, where it is opened: so it is open once.
func (w *walk) look(top *step, l link) {
	switch here, there := w.depth[top.v], w.depth[l.to]; {
	case there < 0:
		w.root[l.to], w.from[l.to], w.depth[l.to] = w.root[top.v], top.v, here+1
		w.path = append(w.path, step{v: l.to, by: l.place, low: here, open: len(w.open)})
	case there < here:
		top.low = min(top.low, there)
		w.open = append(w.open, l.place)
	}
}

// leave goes back from the vertex on top. If nothing beyond it leads back past the one it was come from, then all the
// edges that were opened on the way are a block.
func (w *walk) leave() {
	last := w.path[len(w.path)-1]
	w.path = w.path[:len(w.path)-1]
	if len(w.path) == 0 {
		return
	}
	top := &w.path[len(w.path)-1]
	if last.low < w.depth[top.v] {
		top.low = min(top.low, last.low)
		return
	}
	for _, place := range w.open[last.open:] {
		w.block[place] = last.by
	}
	w.open = w.open[:last.open]
}

// side is the colour of a vertex: each edge that led to a new vertex has both.
func (w *walk) side(v int) bool {
	return w.depth[v]%2 == 1
}

// around is the closed way that the edge e closes. One of its ends was walked over on the way to the other: the walk
// leaves no vertex that still has a new neighbour.
func (w *walk) around(e api.Edge) []int {
	end, v := e.U, e.V
	if w.depth[end] > w.depth[v] {
		end, v = v, end
	}
	way := []int{v}
	for v != end {
		v = w.from[v]
		way = append(way, v)
	}
	return way
}
