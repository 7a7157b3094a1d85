package colour

import (
	"maps"
	"slices"

	"filigree/api"
	"filigree/graph"
	"filigree/rotation"
)

// five is how many colours do for a graph in the plane: some vertex has no more neighbours, whatever has gone.
const five = 5

// step is how a vertex went: alone, from its neighbours, or into another vertex, whose colour it then has.
type step struct {
	v    int
	near []int
	into int // -1: alone
}

// shrinking is a graph in the plane whose vertices go one after the other. What is left is in the plane.
type shrinking struct {
	near  []map[int]struct{} // of each vertex its neighbours that are left; nil: it has gone
	few   [five + 1][]int    // by degree the vertices that have it; there may be some that no longer do
	steps []step
}

// Five answers five colours of a graph in the plane.
func Five(g api.Graph, r [][]int) ([]int, api.Kind) {
	if k := rotation.Plane(g, r); k != api.OK {
		return nil, k
	}
	s := newShrinking(g)
	for v := s.next(); v >= 0; v = s.next() {
		s.drop(v)
	}
	return s.undone(), api.OK
}

// newShrinking is the whole graph: nothing has gone.
func newShrinking(g api.Graph) *shrinking {
	s := &shrinking{near: make([]map[int]struct{}, g.N), steps: make([]step, 0, g.N)}
	for v, list := range graph.Near(g) {
		s.near[v] = make(map[int]struct{}, len(list))
		for _, u := range list {
			s.near[v][u] = struct{}{}
		}
		s.file(v)
	}
	return s
}

// file puts a vertex into the bucket of its degree, if there is one.
func (s *shrinking) file(v int) {
	if degree := len(s.near[v]); degree <= five {
		s.few[degree] = append(s.few[degree], v)
	}
}

// next takes a vertex of the least degree out of its bucket, or answers -1: all have gone.
func (s *shrinking) next() int {
	for degree := range s.few {
		for len(s.few[degree]) > 0 {
			last := len(s.few[degree]) - 1
			v := s.few[degree][last]
			s.few[degree] = s.few[degree][:last]
			if s.near[v] != nil && len(s.near[v]) == degree {
				return v
			}
		}
	}
	return -1
}

// drop lets a vertex of at most five neighbours go. Of five, two become one: so there are never more than four colours
// around it, and one is left for it.
func (s *shrinking) drop(v int) {
	near := s.neighbours(v)
	s.near[v] = nil
	s.steps = append(s.steps, step{v, near, -1})
	for _, u := range near {
		delete(s.near[u], v)
		s.file(u)
	}
	if len(near) == five {
		s.merge(s.apart(near))
	}
}

// neighbours is those of a vertex that are left, rising: a map alone would tell them in any order.
func (s *shrinking) neighbours(v int) []int {
	list := slices.AppendSeq(make([]int, 0, len(s.near[v])), maps.Keys(s.near[v]))
	slices.Sort(list)
	return list
}

// apart is the first two of these that no edge joins. Of five around one vertex there are two: six vertices that are all
// joined are not in the plane.
func (s *shrinking) apart(list []int) (x, y int) {
	for i := range list {
		for j := range i {
			x, y = list[j], list[i]
			if _, joined := s.near[x][y]; !joined {
				return x, y
			}
		}
	}
	return x, y
}

// merge makes one of two vertices that no edge joins and that lay around a vertex which has just gone, so that they can
// meet where it was. The one of fewer neighbours goes into the other: so no edge moves often.
func (s *shrinking) merge(x, y int) {
	if len(s.near[x]) > len(s.near[y]) {
		x, y = y, x
	}
	near := s.neighbours(x)
	s.near[x] = nil
	s.steps = append(s.steps, step{x, nil, y})
	for _, u := range near {
		delete(s.near[u], x)
		s.near[u][y] = struct{}{}
		s.near[y][u] = struct{}{}
		s.file(u)
	}
	s.file(y)
}

// undone gives each vertex its colour, the last one that went first: all that it went from, or into, have theirs by then.
func (s *shrinking) undone() []int {
	p := newPainter(len(s.near), five)
	for _, last := range slices.Backward(s.steps) {
		if last.into >= 0 {
			p.colours[last.v] = p.colours[last.into]
		} else {
			p.paint(last.v, last.near)
		}
	}
	return p.colours
}
