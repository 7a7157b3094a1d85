package faces_test

import (
	"fmt"
	"slices"
	"testing"

	"filigree/api"
	"filigree/planar"
	"filigree/rotation"
)

// ring is a system of a closed way of n vertices.
func ring(n int) [][]int {
	r := make([][]int, n)
	for v := range r {
		r[v] = []int{(v + n - 1) % n, (v + 1) % n}
	}
	return r
}

// wheel is a system in the plane: a closed way around vertex 0, which is joined to all of its n - 1 vertices.
func wheel(n int) [][]int {
	r := [][]int{upTo(n)[1:]}
	for v := range n - 1 {
		r = append(r, []int{0, 1 + (v+n-2)%(n-1), 1 + (v+1)%(n-1)})
	}
	return r
}

// grid is a system in the plane: rows and columns of vertices, each joined to the next ones.
func grid(rows, columns int) [][]int {
	r := make([][]int, rows*columns)
	for v := range r {
		x, y := v%columns, v/columns
		if x > 0 {
			r[v] = append(r[v], v-1)
		}
		if y > 0 {
			r[v] = append(r[v], v-columns)
		}
		if x < columns-1 {
			r[v] = append(r[v], v+1)
		}
		if y < rows-1 {
			r[v] = append(r[v], v+columns)
		}
	}
	return r
}

// bagel is a system that is not in the plane: a grid whose last row and column are joined to the first ones.
func bagel(rows, columns int) [][]int {
	r := make([][]int, rows*columns)
	for v := range r {
		x, y := v%columns, v/columns
		at := func(x, y int) int { return (y+rows)%rows*columns + (x+columns)%columns }
		r[v] = []int{at(x-1, y), at(x, y-1), at(x+1, y), at(x, y+1)}
	}
	return r
}

// triangles is a system in the plane all of whose faces are triangles: each new vertex goes into any of them.
func (d *dice) triangles(n int) [][]int {
	r := ring(3)
	list := [][3]int{{0, 1, 2}, {0, 2, 1}}
	behind := func(v, u, new int) {
		r[v] = slices.Insert(r[v], slices.Index(r[v], u)+1, new)
	}
	for v := 3; v < n; v++ {
		i := d.below(len(list))
		a, b, c := list[i][0], list[i][1], list[i][2]
		behind(a, c, v)
		behind(b, a, v)
		behind(c, b, v)
		r = append(r, []int{b, a, c})
		list[i] = [3]int{a, b, v}
		list = append(list, [3]int{b, c, v}, [3]int{c, a, v})
	}
	return r
}

// forest is a system of n vertices without a closed way.
func (d *dice) forest(n int) [][]int {
	var ends []int
	for v := 1; v < n; v++ {
		if d.below(6) > 0 {
			ends = append(ends, v, d.below(v))
		}
	}
	return d.mixed(rising(sorted(n, ends...)))
}

// beside is systems as one, the vertices of each behind those of the one ahead of it.
func beside(systems ...[][]int) [][]int {
	var r [][]int
	for _, system := range systems {
		by := len(r)
		for _, list := range system {
			moved := make([]int, len(list))
			for i, u := range list {
				moved[i] = u + by
			}
			r = append(r, moved)
		}
	}
	return r
}

// alone is n vertices without an edge.
func alone(n int) [][]int { return make([][]int, n) }

// sample is a graph and one of its systems in the plane.
type sample struct {
	what string
	g    api.Graph
	r    [][]int
}

// inPlane is systems in the plane of many kinds: as they are made, their mirrors, with lists that begin elsewhere, with other
// names, with other weights, and as planar tells them.
func inPlane() []sample {
	d := dice(20261124)
	var list []sample
	take := func(what string, r [][]int) { list = append(list, sample{what, of(r), r}) }
	add := func(what string, n int, r [][]int) {
		what = fmt.Sprint(what, " of ", n)
		take(what, r)
		take(what+", mirror", rotation.Mirror(r))
		take(what+", begun elsewhere", d.turned(r))
		named := d.turned(d.named(r))
		take(what+", named anew", named)
		list = append(list, sample{what + ", other weights", weighed(of(r)), r})
		list = append(list, sample{what + ", as planar tells it", of(named), told(of(named))})
	}
	for n := range 5 {
		add("no edge", n, alone(n))
	}
	for n := 3; n < 40; n += 4 {
		add("ring", n, ring(n))
		add("wheel", n+1, wheel(n+1))
		add("grid", n, grid(n/4+1, 5))
		add("forest", n, d.forest(n))
		add("triangles", n, d.triangles(n))
		add("some of triangles", n, d.thinner(70, d.triangles(n)))
		add("few of triangles", n, d.thinner(40, d.triangles(n)))
		add("a ring, behind two alone", n, beside(alone(2), ring(n)))
		add("a ring, ahead of two alone", n, beside(ring(n), alone(2)))
		add("some beside each other", n, beside(wheel(n+1), alone(1), d.forest(n), grid(2, n), alone(2), d.triangles(n)))
	}
	return list
}

// told is the system in the plane that planar tells of a graph.
func told(g api.Graph) [][]int {
	a, k := planar.Decide(g)
	if k != api.OK || !a.Planar {
		panic(fmt.Sprint("not planar: ", g, int(k)))
	}
	return a.R
}

// The samples are what they are meant to be: systems in the plane.
func TestSamples(t *testing.T) {
	for _, s := range inPlane() {
		if k := rotation.Plane(s.g, s.r); k != api.OK {
			t.Fatalf("%s: %v, %v: kind %d", s.what, s.g, s.r, int(k))
		}
	}
}
