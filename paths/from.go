package paths

import (
	"container/heap"

	"filigree/api"
)

// From answers how far each vertex is from v, and the place of the last edge of a shortest way to it.
func From(m api.Graph, v int) (dist []int64, via []int, k api.Kind) {
	if k := Right(m); k != api.OK {
		return nil, nil, k
	}
	if !isVertex(m, v) {
		return nil, nil, api.BadVertex
	}
	s := newSearch(m)
	s.come(v, 0, none)
	for s.waiting.Len() > 0 {
		s.leave(s.nearest())
	}
	return s.dist, s.via, api.OK
}

// stop is a vertex at the end of a way, and how long that way is.
type stop struct {
	dist int64
	v    int
}

// queue is a heap of stops, the nearest one at its top.
type queue []stop

func (q queue) Len() int           { return len(q) }
func (q queue) Less(i, j int) bool { return q[i].dist < q[j].dist }
func (q queue) Swap(i, j int)      { q[i], q[j] = q[j], q[i] }
func (q *queue) Push(x any)        { *q = append(*q, x.(stop)) }

func (q *queue) Pop() any {
	last := len(*q) - 1
	x := (*q)[last]
	*q = (*q)[:last]
	return x
}

// search is what is known of the ways from one vertex.
type search struct {
	m       api.Graph
	at      [][]int // of each vertex the places of its edges
	dist    []int64
	via     []int
	waiting queue
}

func newSearch(m api.Graph) *search {
	s := &search{m: m, at: edgesAt(m), dist: make([]int64, m.N), via: make([]int, m.N)}
	for v := range m.N {
		s.dist[v], s.via[v] = none, none
	}
	return s
}

// edgesAt is of each vertex the places of the edges that end there. Loops are left out: no shortest way needs one.
func edgesAt(m api.Graph) [][]int {
	degrees := make([]int, m.N)
	for _, e := range m.E {
		degrees[e.U]++
		degrees[e.V]++
	}
	at := make([][]int, m.N)
	for v, degree := range degrees {
		at[v] = make([]int, 0, degree)
	}
	for place, e := range m.E {
		if e.U != e.V {
			at[e.U] = append(at[e.U], place)
			at[e.V] = append(at[e.V], place)
		}
	}
	return at
}

// come takes a way to v that is this long and ends with this edge, if none that is as short has come there.
func (s *search) come(v int, dist int64, via int) {
	if s.dist[v] != none && s.dist[v] <= dist {
		return
	}
	s.dist[v], s.via[v] = dist, via
	heap.Push(&s.waiting, stop{dist, v})
}

// nearest takes the nearest stop off the heap.
func (s *search) nearest() stop {
	return heap.Pop(&s.waiting).(stop)
}

// leave goes on from a stop over each of its vertex's edges.
func (s *search) leave(from stop) {
	// A shorter way has come there since: the vertex has been left already.
	if s.dist[from.v] < from.dist {
		return
	}
	for _, place := range s.at[from.v] {
		e := s.m.E[place]
		s.come(other(e, from.v), from.dist+e.W, place)
	}
}
