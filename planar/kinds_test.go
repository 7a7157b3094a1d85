package planar_test

import (
	"fmt"
	"slices"

	"filigree/api"
)

// wheel is the ends of a closed way around vertex 0, which is joined to all of its n - 1 vertices.
func wheel(n int) []int {
	ends := round(upTo(n)[1:]...)
	for v := 1; v < n; v++ {
		ends = append(ends, 0, v)
	}
	return ends
}

// grid is the ends of rows and columns of vertices, each joined to the next ones; closed: and the last ones to the first.
func grid(rows, columns int, closed bool) []int {
	var ends []int
	for y := range rows {
		for x := range columns {
			if x < columns-1 || closed {
				ends = append(ends, y*columns+x, y*columns+(x+1)%columns)
			}
			if y < rows-1 || closed {
				ends = append(ends, y*columns+x, (y+1)%rows*columns+x)
			}
		}
	}
	return ends
}

// triangles is the ends of a graph of triangles, with as many edges as the plane allows: each new vertex is joined to all
// three of a triangle, which is the newest one, or any.
func (d *dice) triangles(n int, newest bool) []int {
	ends := round(0, 1, 2)
	list := [][3]int{{0, 1, 2}, {0, 1, 2}}
	for v := 3; v < n; v++ {
		i := len(list) - 1
		if !newest {
			i = d.below(len(list))
		}
		t := list[i]
		ends = append(ends, t[0], v, t[1], v, t[2], v)
		list[i] = [3]int{t[0], t[1], v}
		list = append(list, [3]int{t[0], t[2], v}, [3]int{t[1], t[2], v})
	}
	return ends
}

// band is the ends of a closed band of n rungs; turned over once, it is the ladder of Moebius.
func band(n int, turned bool) []int {
	var ends []int
	for i := range n {
		ends = append(ends, i, n+i)
		if i < n-1 {
			ends = append(ends, i, i+1, n+i, n+i+1)
		}
	}
	if turned {
		return append(ends, n-1, n, 2*n-1, 0)
	}
	return append(ends, n-1, 0, 2*n-1, n)
}

// forest is the ends of n vertices without a closed way.
func (d *dice) forest(n, stay int) []int {
	var ends []int
	for v := 1; v < n; v++ {
		ends = append(ends, v, d.below(v))
	}
	return d.thinner(stay, ends)
}

// outer is the ends of a closed way of n vertices, and of chords within that don't cross.
func (d *dice) outer(n int) []int {
	ends := round(upTo(n)...)
	open := [][2]int{{0, n - 1}}
	for len(open) > 0 {
		from, to := open[0][0], open[0][1]
		open = open[1:]
		if to-from < 2 {
			continue
		}
		mid := from + 1 + d.below(to-from-1)
		if mid-from > 1 {
			ends = append(ends, from, mid)
		}
		if to-mid > 1 {
			ends = append(ends, mid, to)
		}
		open = append(open, [2]int{from, mid}, [2]int{mid, to})
	}
	return ends
}

// petersen is the ends of the graph of Petersen.
func petersen() []int {
	return slices.Concat(round(0, 1, 2, 3, 4), round(5, 7, 9, 6, 8), []int{0, 5, 1, 6, 2, 7, 3, 8, 4, 9})
}

// solid is the ends of rings of n vertices, each joined to the next ring, straight or also askew; a vertex closes it on
// either side.
func solid(n, rings int, askew bool) []int {
	var ends []int
	for ring := range rings {
		ends = append(ends, round(moved(ring*n, upTo(n))...)...)
		for v := range n {
			if ring < rings-1 {
				ends = append(ends, ring*n+v, ring*n+n+v)
			}
			if ring < rings-1 && askew {
				ends = append(ends, ring*n+v, ring*n+n+(v+1)%n)
			}
		}
	}
	for v := range n {
		ends = append(ends, rings*n, v, rings*n+1, (rings-1)*n+v)
	}
	return ends
}

// kind is graphs of one kind.
type kind struct {
	what string
	g    api.Graph
}

// inPlane is graphs in the plane of many kinds.
func inPlane() []kind {
	d := dice(20261121)
	var list []kind
	add := func(what string, n int, ends []int) {
		g := sorted(n, ends...)
		what = fmt.Sprint(what, " of ", n)
		list = append(list, kind{what, g}, kind{what + ", named anew", d.named(g)})
	}
	for n := 4; n < 60; n += 5 {
		add("way", n, along(upTo(n)...))
		add("star", n, between(1, n-1))
		add("forest", n, d.forest(n, 80))
		add("ring", n, round(upTo(n)...))
		add("wheel", n, wheel(n))
		add("two joined to all", n, between(2, n-2))
		add("two joined to all, and rungs", n, append(between(2, n-2), along(upTo(n)[2:]...)...))
		add("newest triangles", n, d.triangles(n, true))
		add("any triangles", n, d.triangles(n, false))
		add("some of triangles", n, d.thinner(75, d.triangles(n, false)))
		add("few of triangles", n, d.thinner(45, d.triangles(n, false)))
		add("chords", n, d.outer(n))
		more, ends := d.longer(n, n, d.thinner(80, d.triangles(n, false)))
		add("longer triangles", more, ends)
	}
	for n := 1; n < 8; n++ {
		add("grid", n*7, grid(n, 7, false))
		add("some of grid", n*9, d.thinner(80, grid(n, 9, false)))
		add("band", 2*n+4, band(n+2, false))
		add("solid", 5*n+2, solid(5, n, false))
		add("askew solid", 4*n+2, solid(4, n, true))
	}
	return list
}

// notInPlane is graphs that are not, of many kinds.
func notInPlane() []kind {
	d := dice(20261122)
	var list []kind
	add := func(what string, n int, ends []int) {
		g := sorted(n, ends...)
		what = fmt.Sprint(what, " of ", n)
		list = append(list, kind{what, g}, kind{what + ", named anew", d.named(g)})
	}
	five, threes := among(upTo(5)...), between(3, 3)
	for more := range 16 {
		for beside := range 4 {
			n, ends := d.longer(5, more*more/4, five)
			add("K5", n+beside, d.denser(n+beside, beside*n/3, ends))
			n, ends = d.longer(6, more*more/4, threes)
			add("K3,3", n+beside, d.denser(n+beside, beside*n/3, ends))
		}
	}
	add("Petersen", 10, petersen())
	for n := 5; n <= 22; n++ {
		add("full", n, among(upTo(n)...))
		add("full, two sides", n+1, between((n+1)/2, n+1-(n+1)/2))
		add("three joined to all", n+1, between(3, n-2))
		add("turned band", 2*n-4, band(n-2, true))
		add("grid on a ring", 3*n, grid(3, n, true))
		add("triangles and an edge", n+1, d.overFull(n+1))
	}
	for n := 10; n < 50; n += 3 {
		add("any", n, d.denser(n, 4*n, nil))
		more, ends := d.longer(n, 2*n, d.denser(n, 3*n, nil))
		add("longer", more, ends)
	}
	return list
}

// overFull is the ends of a graph of triangles, and of an edge more than the plane allows.
func (d *dice) overFull(n int) []int {
	ends := d.triangles(n, false)
	for more := ends; ; {
		if more = d.denser(n, 1, ends); len(more) > len(ends) {
			return more
		}
	}
}
