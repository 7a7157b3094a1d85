package pfaffian_test

import (
	"fmt"
	"slices"
	"testing"

	"filigree/api"
	"filigree/pfaffian"
	"filigree/rotation"
)

// P1701: graphs without an edge have a direction of no truth, and it is good.
func TestOrientWithoutAnEdge(t *testing.T) {
	for n := range 5 {
		for _, r := range [][][]int{alone(n), make([][]int, n, n+3), slices.Repeat([][]int{{}}, n)} {
			along := isOriented(t, "no edge", api.Graph{N: n}, r)
			if len(along) != 0 {
				t.Errorf("%d vertices: %v", n, along)
			}
		}
	}
	isOriented(t, "no vertex, no list", api.Graph{E: []api.Edge{}}, nil)
}

// P1701: graphs told by hand, and those solids whose faces are all alike.
func TestOrientTold(t *testing.T) {
	for what, r := range map[string][][]int{
		"an edge": way(2), "a way": way(5), "a triangle": ring(3), "a square": ring(4), "a ring of 5": ring(5), "a star": star(6),
		"two edges apart": {{2}, {3}, {0}, {1}}, "K4": {{1, 2, 3}, {0, 3, 2}, {0, 1, 3}, {0, 2, 1}},
		"octahedron": poles(6), "cube": nest(2, 4), "icosahedron": icosahedron(), "dodecahedron": dual(icosahedron()), "football": cornered(icosahedron()),
		"two squares with a vertex in common": glued(ring(4), ring(4)), "two squares and a bridge": bridged(ring(4), ring(4)),
		"a square in a square, apart": beside(ring(4), ring(4)), "a square with an edge inside": {{1, 4, 3}, {0, 2}, {1, 3}, {2, 0}, {0}},
		"three of some kinds": beside(alone(1), way(3), ring(6), alone(2), nest(2, 3), star(4)),
	} {
		isOriented(t, what, of(r), r)
		isOriented(t, what+", mirror", of(r), rotation.Mirror(r))
	}
}

// P1701: graphs of many kinds: trees and several trees, bridges, several blocks and several components.
func TestOrientOfMany(t *testing.T) {
	for _, s := range samples(30) {
		isOriented(t, s.what, s.g, s.r)
	}
}

// P1701: all graphs in the plane of at most 5 vertices, and some of 6.
func TestOrientOfAll(t *testing.T) {
	d := dice(1701)
	for n := range 7 {
		smallSystems(n, func(g api.Graph, r [][]int) {
			if n < 6 || d.below(6) == 0 {
				isOriented(t, "small", g, r)
			}
		})
	}
}

// P1701: all systems in the plane of all graphs of at most 4 vertices; the others are refused.
func TestOrientOfAllSystems(t *testing.T) {
	count := 0
	for n := range 5 {
		smalls(n, func(g api.Graph) {
			eachOrder(rising(g), 0, func(r [][]int) {
				if k := rotation.Plane(g, r); k != api.OK {
					isRefused(t, "small", g, r, nil, k)
					count++
					return
				}
				isOriented(t, "small", g, r)
				isCount(t, "small", g, r, byChoice(g))
			})
		})
	}
	if count == 0 {
		t.Error("no system is refused")
	}
}

// eachOrder tells each system whose lists are these from the place v on, in any order behind their first ones.
func eachOrder(r [][]int, v int, tell func(r [][]int)) {
	if v == len(r) {
		tell(r)
		return
	}
	var from func(at int)
	from = func(at int) {
		if at >= len(r[v])-1 {
			eachOrder(r, v+1, tell)
			return
		}
		for i := at; i < len(r[v]); i++ {
			r[v][at], r[v][i] = r[v][i], r[v][at]
			from(at + 1)
			r[v][at], r[v][i] = r[v][i], r[v][at]
		}
	}
	from(min(1, len(r[v])))
}

// P1701: drawn graphs in the plane, from trees to triangles alone, of all sizes to 60, under any names.
func TestOrientOfDrawn(t *testing.T) {
	d := dice(1702)
	for range 3000 {
		n := 3 + d.below(58)
		r := d.named(d.thinner(20+d.below(85), d.triangles(n)))
		isOriented(t, "drawn", of(r), r)
	}
	for range 500 {
		r := ring(3 + d.below(4))
		for range d.below(9) {
			other := [][][]int{ring(3 + d.below(4)), wheel(4 + d.below(3)), way(2), poles(6), nest(2, 4), d.tree(5), d.triangles(6)}[d.below(7)]
			r = [][][]int{glued(r, other), bridged(r, other), beside(r, other)}[d.below(3)]
			r = d.named(r)
		}
		isOriented(t, "put together", of(r), r)
	}
}

// P1701: weights, and where lists begin, are nothing to a direction being good; told again it is the same.
func TestOrientOfWeights(t *testing.T) {
	for i, weight := range []int64{0, -1, 1 - api.MaxW, api.MaxW - 1} {
		for _, s := range samples(8) {
			g := weighed(s.g, func(int) int64 { return weight })
			along := isOriented(t, s.what, g, s.r)
			turned := slices.Clone(s.r)
			for v, list := range turned {
				turned[v] = slices.Concat(list[min(i, len(list)):], list[:min(i, len(list))])
			}
			isChecked(t, s.what, g, turned, along, api.OK)
			isOriented(t, s.what, g, turned)
			if again, _ := pfaffian.Orient(g, s.r); fmt.Sprint(again) != fmt.Sprint(along) {
				t.Fatalf("%s: %v, then %v", s.what, along, again)
			}
		}
	}
}

// smallSystems tells each graph in the plane of n vertices, with a system that planar tells.
func smallSystems(n int, tell func(g api.Graph, r [][]int)) {
	smalls(n, func(g api.Graph) {
		if a, ok := planarly(g); ok {
			tell(g, a)
		}
	})
}
