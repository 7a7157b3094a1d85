package paths_test

import (
	"fmt"
	"math"
	"slices"
	"testing"

	"filigree/api"
	"filigree/paths"
)

// isWay fails the test unless these are edges of m, one behind the other, from a vertex to another, of this sum of weights.
func isWay(t *testing.T, what string, m api.Graph, places []int, from, to int, sum int64) {
	t.Helper()
	v := from
	for _, place := range places {
		if place < 0 || place >= len(m.E) || m.E[place].U != v && m.E[place].V != v {
			t.Fatalf("%s: Way to %d: %v: %d does not end at %d", what, to, places, place, v)
		}
		v = m.E[place].U + m.E[place].V - v
		sum -= m.E[place].W
	}
	if v != to || sum != 0 {
		t.Fatalf("%s: Way to %d: %v: comes to %d, and is not as long as told by %d", what, to, places, v, sum)
	}
}

// P1204: of From's via, the way to each vertex, from its first edge on: it is as long as its Dist.
func TestWayOfFrom(t *testing.T) {
	for _, s := range samples() {
		for v := range s.m.N {
			dist, via, _ := paths.From(s.m, v)
			for u := range s.m.N {
				got := paths.Way(s.m, via, u)
				if dist[u] < 1 && (u == v || dist[u] < 0) && len(got) > 0 {
					t.Fatalf("%s: Way from %d to %d: %v", s.what, v, u, got)
				}
				if dist[u] >= 0 {
					isWay(t, s.what, s.m, got, v, u, dist[u])
				}
			}
			for _, u := range outside(s.m.N) {
				if got := paths.Way(s.m, via, u); len(got) > 0 {
					t.Fatalf("%s: Way from %d to %d, which is no vertex: %v", s.what, v, u, got)
				}
			}
		}
	}
}

// P1204: ways told by hand, and what is none.
func TestWayTold(t *testing.T) {
	row := multi(4, [3]int64{0, 1, 5}, [3]int64{2, 1, 6}, [3]int64{2, 3, 7})
	round := multi(3, [3]int64{0, 1, 0}, [3]int64{1, 2, 0}, [3]int64{2, 0, 0}, [3]int64{1, 1, 0})
	for _, c := range []struct {
		what string
		m    api.Graph
		via  []int
		v    int
		want string
	}{
		{"no vertex", api.Graph{}, nil, 0, "[]"},
		{"no vertex, a via", api.Graph{}, []int{0}, 0, "[]"},
		{"a vertex alone", api.Graph{N: 1}, []int{-1}, 0, "[]"},
		{"no edge", api.Graph{N: 3}, []int{-1, -1, -1}, 2, "[]"},
		{"no edge, but a place", api.Graph{N: 3}, []int{-1, -1, 0}, 2, "[]"},
		{"where it begins", row, []int{-1, 0, 1, 2}, 0, "[]"},
		{"one edge", row, []int{-1, 0, 1, 2}, 1, "[0]"},
		{"two edges", row, []int{-1, 0, 1, 2}, 2, "[0 1]"},
		{"three edges", row, []int{-1, 0, 1, 2}, 3, "[0 1 2]"},
		{"from the other end", row, []int{0, 1, 2, -1}, 0, "[2 1 0]"},
		{"from the middle", row, []int{0, -1, 1, 2}, 3, "[1 2]"},
		{"v below 0", row, []int{-1, 0, 1, 2}, -1, "[]"},
		{"v beyond", row, []int{-1, 0, 1, 2}, 4, "[]"},
		{"v beyond, a longer via", row, []int{-1, 0, 1, 2, 2}, 4, "[]"},
		{"the least v", row, []int{-1, 0, 1, 2}, math.MinInt, "[]"},
		{"the greatest v", row, []int{-1, 0, 1, 2}, math.MaxInt, "[]"},
		{"a longer via", row, []int{-1, 0, 1, 2, 2, 9}, 3, "[0 1 2]"},
		{"no via", row, nil, 3, "[]"},
		{"an empty via", row, []int{}, 0, "[]"},
		{"via too short for v", row, []int{-1, 0, 1}, 3, "[]"},
		{"via too short, but not on the way", row, []int{-1, 0, 1}, 2, "[0 1]"},
		{"via too short on the way: there is none", row, []int{0, 1}, 0, "[1 0]"},
		{"a place beyond", row, []int{-1, 0, 1, 3}, 3, "[]"},
		{"a place beyond, on the way", row, []int{-1, 3, 1, 2}, 3, "[]"},
		{"a place beyond, at the way's beginning", row, []int{3, 0, 1, 2}, 3, "[]"},
		{"a place beyond, elsewhere", row, []int{-1, 0, 1, 3}, 2, "[0 1]"},
		{"the greatest place", row, []int{-1, 0, 1, math.MaxInt}, 3, "[]"},
		{"a place below -1", row, []int{-1, 0, 1, -2}, 3, "[]"},
		{"a place below -1, on the way", row, []int{-2, 0, 1, 2}, 3, "[]"},
		{"the least place", row, []int{math.MinInt, 0, 1, 2}, 3, "[]"},
		{"an edge of others", row, []int{-1, 0, 1, 0}, 3, "[]"},
		{"an edge of others, on the way", row, []int{-1, 2, 1, 2}, 3, "[]"},
		{"an edge of others, at the way's beginning", row, []int{2, 0, 1, 2}, 3, "[]"},
		{"to and fro", row, []int{0, 0, 1, 2}, 0, "[0 0 0 0]"},
		{"to and fro, come to", row, []int{0, 0, 1, 2}, 3, "[0 0 1 2]"},
		{"round", round, []int{0, 1, 2}, 0, "[2 1 0]"},
		{"round the other way", round, []int{2, 0, 1}, 0, "[0 1 2]"},
		{"round by a loop", round, []int{0, 3, 1}, 1, "[3 3 3]"},
		{"round by a loop, come to", round, []int{0, 3, 1}, 0, "[3 3 0]"},
		{"round, via too short for others", round, []int{0, 0}, 0, "[0 0 0]"},
	} {
		if got := fmt.Sprint(paths.Way(c.m, c.via, c.v)); got != c.want {
			t.Errorf("%s: %s, not %s", c.what, got, c.want)
		}
	}
}

// P1204: all vias, too short and too long ones too, on all multigraphs of at most 3 vertices and 2 edges, from each number.
func TestWayOfAll(t *testing.T) {
	for n := range 4 {
		multigraphs(n, 2, []int64{0}, func(m api.Graph) {
			for length := range n + 2 {
				lists(length, -2, 2, func(via []int) {
					for v := -1; v <= n; v++ {
						if got, want := paths.Way(m, via, v), wayOf(m, via, v); !slices.Equal(got, want) {
							t.Fatalf("Way(%v, %v, %d): %v, not %v", m, via, v, got, want)
						}
					}
				})
			}
		})
	}
}

// P1204: weights mean nothing, nor what edges there are elsewhere.
func TestWayLooksAtItsEdgesAlone(t *testing.T) {
	m := multi(3, [3]int64{0, 1, -5}, [3]int64{2, 1, math.MaxInt64}, [3]int64{7, -7, 0})
	if got := fmt.Sprint(paths.Way(m, []int{-1, 0, 1}, 2)); got != "[0 1]" {
		t.Errorf("%s", got)
	}
}

// Rule 1: of multigraphs that are not right Way ends too, round or not.
func TestWayOfWrong(t *testing.T) {
	for what, c := range wrongs() {
		for _, via := range [][]int{nil, {0}, {-1, 0}, {0, 0}, {-1, 3}, {0, -1, 5}} {
			for v := -1; v < 4; v++ {
				if got := paths.Way(c.m, via, v); len(got) > max(0, c.m.N) {
					t.Errorf("%s: Way by %v to %d: %d places", what, via, v, len(got))
				}
			}
		}
	}
	if got := paths.Way(multi(2, [3]int64{0, 9, 1}), []int{0, -1}, 0); len(got) > 0 {
		t.Errorf("over an edge to no vertex: %v", got)
	}
	long := way(api.MaxN + 3)
	via := make([]int, long.N)
	for v := range via {
		via[v] = v - 1
	}
	if got := paths.Way(long, via, long.N-1); len(got) != long.N-1 {
		t.Errorf("a way of more vertices than there may be: %d places", len(got))
	}
}
