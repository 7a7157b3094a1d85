package paths_test

import (
	"slices"
	"testing"

	"filigree/api"
	"filigree/paths"
)

// tables is of each vertex how far all others are from it.
func tables(m api.Graph) [][]int64 {
	far := make([][]int64, m.N)
	for v := range far {
		far[v], _, _ = paths.From(m, v)
	}
	return far
}

// P1205: no edge makes a shorter way, and none goes from what has a way to what has none.
func TestNoEdgeMakesAShorterWay(t *testing.T) {
	for _, s := range samples() {
		for v, dist := range tables(s.m) {
			for _, e := range s.m.E {
				a, b := dist[e.U], dist[e.V]
				if (a < 0) != (b < 0) || a >= 0 && (a > b+e.W || b > a+e.W) {
					t.Fatalf("%s: from %d: edge %v between %d and %d", s.what, v, e, a, b)
				}
			}
		}
	}
}

// P1205: of two vertices each is as far from the other one; and over a third one it is no nearer.
func TestAsFarBothWays(t *testing.T) {
	for _, s := range samples() {
		far := tables(s.m)
		for u := range far {
			for v := range far {
				if far[u][v] != far[v][u] || far[u][u] != 0 {
					t.Fatalf("%s: %d and %d: %d and %d", s.what, u, v, far[u][v], far[v][u])
				}
				for w := range far {
					if far[u][w] >= 0 && far[w][v] >= 0 && (far[u][v] < 0 || far[u][v] > far[u][w]+far[w][v]) {
						t.Fatalf("%s: %d to %d: %d, over %d: %d and %d", s.what, u, v, far[u][v], w, far[u][w], far[w][v])
					}
				}
			}
		}
	}
}

// P1202: names of vertices, the order of edges and of their ends change no distance.
func TestNames(t *testing.T) {
	d := dice(1205)
	for _, s := range samples() {
		other, name := d.named(s.m)
		for v := range s.m.N {
			dist, _, _ := paths.From(s.m, v)
			named := make([]int64, s.m.N)
			for u := range dist {
				named[name[u]] = dist[u]
			}
			isFrom(t, s.what+", named anew", other, name[v], named)
		}
	}
}

// P1202: loops, and edges that are dearer than the way between their ends, change no distance.
func TestEdgesThatNobodyNeeds(t *testing.T) {
	d := dice(1206)
	for _, s := range samples() {
		far := tables(s.m)
		more := api.Graph{N: s.m.N, E: slices.Clone(s.m.E)}
		for range s.m.N {
			u, v := d.below(s.m.N), d.below(s.m.N)
			if far[u][v] >= 0 && far[u][v] < api.MaxW-1 {
				more.E = append(more.E, api.Edge{U: u, V: v, W: far[u][v]}, api.Edge{U: v, V: u, W: far[u][v] + 1})
			}
		}
		for v, dist := range far {
			isFrom(t, s.what+", with more edges", more, v, dist)
		}
	}
}
