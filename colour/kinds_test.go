package colour_test

import (
	"fmt"
	"slices"
	"testing"

	"filigree/api"
	"filigree/planar"
	"filigree/rotation"
)

// alone is n vertices without an edge.
func alone(n int) [][]int { return make([][]int, n) }

// ring is a system of a closed way of n vertices.
func ring(n int) [][]int {
	r := make([][]int, n)
	for v := range r {
		r[v] = []int{(v + n - 1) % n, (v + 1) % n}
	}
	return r
}

// star is a system in the plane: vertex 0 joined to all others.
func star(n int) [][]int {
	r := [][]int{upTo(n)[1:]}
	for range n - 1 {
		r = append(r, []int{0})
	}
	return r
}

// wheel is a system in the plane: a closed way around vertex 0, which is joined to all of its n - 1 vertices.
func wheel(n int) [][]int {
	r := [][]int{upTo(n)[1:]}
	for v := range n - 1 {
		r = append(r, []int{0, 1 + (v+n-2)%(n-1), 1 + (v+1)%(n-1)})
	}
	return r
}

// grid is a system in the plane: rows and columns of vertices, each joined to the next ones.
func grid(rows, columns int) [][]int {
	r := make([][]int, rows*columns)
	for v := range r {
		x, y := v%columns, v/columns
		if x > 0 {
			r[v] = append(r[v], v-1)
		}
		if y > 0 {
			r[v] = append(r[v], v-columns)
		}
		if x < columns-1 {
			r[v] = append(r[v], v+1)
		}
		if y < rows-1 {
			r[v] = append(r[v], v+columns)
		}
	}
	return r
}

// bagel is a system that is not in the plane: a grid whose last row and column are joined to the first ones.
func bagel(rows, columns int) [][]int {
	r := make([][]int, rows*columns)
	for v := range r {
		x, y := v%columns, v/columns
		at := func(x, y int) int { return (y+rows)%rows*columns + (x+columns)%columns }
		r[v] = []int{at(x-1, y), at(x, y-1), at(x+1, y), at(x, y+1)}
	}
	return r
}

// drum is a system in the plane all of whose faces are triangles: rings of n vertices below each other, each joined to the
// next one straight and askew, and a vertex above and one below all. A ring of 4 is the octahedron, two of 5 are the icosahedron;
// from two rings of 5 on no vertex has a degree below 5.
func drum(n, rings int) [][]int {
	var r [][]int
	above, below := n*rings, n*rings+1
	at := func(ring, i int) int { return ring*n + (i+n)%n }
	for y := range rings {
		for x := range n {
			up, down := []int{at(y-1, x-1), at(y-1, x)}, []int{at(y+1, x+1), at(y+1, x)}
			if y == 0 {
				up = []int{above}
			}
			if y == rings-1 {
				down = []int{below}
			}
			r = append(r, slices.Concat([]int{at(y, x-1)}, up, []int{at(y, x+1)}, down))
		}
	}
	last := upTo(n)
	for i := range last {
		last[i] += n * (rings - 1)
	}
	return append(r, falling(n), last)
}

func octahedron() [][]int { return drum(4, 1) }

func icosahedron() [][]int { return drum(5, 2) }

// beside is systems as one, the vertices of each behind those of the one ahead of it.
func beside(systems ...[][]int) [][]int {
	var r [][]int
	for _, system := range systems {
		by := len(r)
		for _, list := range system {
			moved := make([]int, len(list))
			for i, u := range list {
				moved[i] = u + by
			}
			r = append(r, moved)
		}
	}
	return r
}

// sample is a graph and one of its systems in the plane.
type sample struct {
	what string
	g    api.Graph
	r    [][]int
}

// varied is a system as it is made, its mirror, with lists that begin elsewhere, with other names, and as planar tells it.
func (d *dice) varied(what string, r [][]int) []sample {
	named := d.turned(d.named(r))
	g := of(named)
	return []sample{
		{what, of(r), r},
		{what + ", mirror", of(r), rotation.Mirror(r)},
		{what + ", begun elsewhere", of(r), d.turned(r)},
		{what + ", named anew", g, named},
		{what + ", as planar tells it", g, told(g)},
	}
}

// inPlane is systems in the plane of many kinds.
func inPlane() []sample {
	d := dice(20261118)
	var list []sample
	add := func(what string, n int, r [][]int) {
		list = append(list, d.varied(fmt.Sprint(what, " of ", n), r)...)
	}
	for n := range 5 {
		add("no edge", n, alone(n))
	}
	add("K4", 4, wheel(4))
	add("octahedron", 6, octahedron())
	add("icosahedron", 12, icosahedron())
	for n := 3; n < 40; n += 4 {
		add("ring", n, ring(n))
		add("star", n, star(n))
		add("wheel", n+1, wheel(n+1))
		add("grid", n, grid(n/4+1, 5))
		add("forest", n, d.forest(n))
		add("drum of one ring", n, drum(n, 1))
		add("triangles", n, d.triangles(n))
		add("some of triangles", n, d.thinner(80, d.triangles(n)))
		add("few of triangles", n, d.thinner(40, d.triangles(n)))
		add("many components", n, beside(alone(1), wheel(n+1), alone(2), d.forest(n), octahedron(), icosahedron(), d.triangles(n)))
	}
	return append(list, fives()...)
}

// told is the system in the plane that planar tells of a graph.
func told(g api.Graph) [][]int {
	a, k := planar.Decide(g)
	if k != api.OK || !a.Planar {
		panic(fmt.Sprint("not planar: ", g, int(k)))
	}
	return a.R
}

// The samples are what they are meant to be: systems in the plane.
func TestSamples(t *testing.T) {
	for _, s := range inPlane() {
		if k := rotation.Plane(s.g, s.r); k != api.OK {
			t.Fatalf("%s: %v, %v: kind %d", s.what, s.g, s.r, int(k))
		}
	}
}
