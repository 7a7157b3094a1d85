package colour_test

import (
	"fmt"
	"slices"
	"testing"
)

// This file has systems in the plane all of whose faces are triangles, no vertex of a degree below 5 among them.

// least is the least degree of a system.
func least(r [][]int) int {
	return len(slices.MinFunc(r, func(a, b []int) int { return len(a) - len(b) }))
}

// after is what stands behind u in a list that closes.
func after(list []int, u int) int { return list[(slices.Index(list, u)+1)%len(list)] }

// from is a list that closes, told from u on.
func from(list []int, u int) []int {
	at := slices.Index(list, u)
	return slices.Concat(list[at:], list[:at])
}

// triangles goes on from a triangle: each new vertex goes into any face, and is joined to its corners.
func (d *dice) triangles(n int) [][]int {
	r := ring(3)
	list := [][3]int{{0, 1, 2}, {0, 2, 1}}
	for v := 3; v < n; v++ {
		i := d.below(len(list))
		a, b, c := list[i][0], list[i][1], list[i][2]
		r = stacked(r, a, c, b)
		list[i] = [3]int{a, b, v}
		list = append(list, [3]int{b, c, v}, [3]int{c, a, v})
	}
	return r
}

// stacked puts a new vertex into the face between a, b and c, where c stands behind b in the list of a.
func stacked(r [][]int, a, b, c int) [][]int {
	v := len(r)
	behind := func(at, u int) {
		r[at] = slices.Insert(r[at], slices.Index(r[at], u)+1, v)
	}
	behind(a, b)
	behind(b, c)
	behind(c, a)
	return append(r, []int{a, b, c})
}

// forest is a system of n vertices without a closed way, each list in any order.
func (d *dice) forest(n int) [][]int {
	r := make([][]int, n)
	for v := 1; v < n; v++ {
		if u := d.below(v); d.below(6) > 0 {
			r[u] = slices.Insert(r[u], d.below(len(r[u])+1), v)
			r[v] = append(r[v], u)
		}
	}
	return r
}

// glued puts a system, all of whose faces are triangles, into the face between a, b and c, where c stands behind b in the
// list of a: the corners of one of its faces become these.
func (d *dice) glued(r [][]int, a, b, c int, inner [][]int) [][]int {
	// In the face that is met from outside the corners stand the other way round.
	x := d.below(len(inner))
	z := inner[x][d.below(len(inner[x]))]
	y := after(inner[x], z)
	name := make([]int, len(inner))
	for v := range inner {
		switch v {
		case x:
			name[v] = a
		case y:
			name[v] = b
		case z:
			name[v] = c
		default:
			name[v] = len(r)
			r = append(r, nil)
		}
	}
	renamed := func(list []int) []int {
		var names []int
		for _, u := range list {
			names = append(names, name[u])
		}
		return names
	}
	for v, list := range inner {
		if v != x && v != y && v != z {
			r[name[v]] = renamed(list)
		}
	}
	within := func(at, u, v int) {
		list := from(inner[v], u)
		old := r[at]
		r[at] = slices.Insert(old, slices.Index(old, name[u])+1, renamed(list[1:len(list)-1])...)
	}
	within(a, y, x)
	within(b, z, y)
	within(c, x, z)
	return r
}

// raised puts vertices and icosahedra into faces, till no vertex has a degree below 5. Vertices of degree 5 among whose
// neighbours more are joined than those that stand beside each other come about.
func (d *dice) raised(r [][]int) [][]int {
	for least(r) < 5 {
		a := slices.IndexFunc(r, func(list []int) bool { return len(list) < 5 })
		b := r[a][d.below(len(r[a]))]
		c := after(r[a], b)
		if d.below(2) == 0 {
			r = stacked(r, a, b, c)
		} else {
			r = d.glued(r, a, b, c, icosahedron())
		}
	}
	return r
}

// flipped turns edges within the two triangles beside them, many a time, as long as no degree falls below 5.
func (d *dice) flipped(r [][]int, times int) [][]int {
	for range times {
		a := d.below(len(r))
		b := r[a][d.below(len(r[a]))]
		c, e := after(r[a], b), after(r[b], a)
		if len(r[a]) == 5 || len(r[b]) == 5 || c == e || slices.Contains(r[c], e) {
			continue
		}
		r[a] = slices.Delete(r[a], slices.Index(r[a], b), slices.Index(r[a], b)+1)
		r[b] = slices.Delete(r[b], slices.Index(r[b], a), slices.Index(r[b], a)+1)
		r[c] = slices.Insert(r[c], slices.Index(r[c], a)+1, e)
		r[e] = slices.Insert(r[e], slices.Index(r[e], b)+1, c)
	}
	return r
}

// fives is systems of triangles in the plane without a vertex of a degree below 5.
func fives() []sample {
	d := dice(5)
	var list []sample
	add := func(what string, n int, r [][]int) {
		list = append(list, d.varied(fmt.Sprint(what, " of ", n), r)...)
	}
	for n := 5; n < 30; n += 3 {
		add("drum of two rings", n, drum(n, 2))
		add("drum of rings", n, drum(n, 3+n/5))
		add("flipped drum of two rings", n, d.flipped(drum(n, 2), 100*n))
		add("flipped drum of rings", n, d.flipped(drum(n, 3+n/5), 1000*n))
		add("raised triangles", n, d.raised(d.triangles(n)))
		add("flipped raised triangles", n, d.flipped(d.raised(d.triangles(n)), 1000*n))
		add("raised octahedron", n, d.raised(octahedron()))
		add("drums beside each other", n, beside(drum(n, 2), icosahedron(), d.raised(d.triangles(n))))
	}
	return list
}

// hasChord tells whether a vertex of degree 5 has neighbours that are joined and don't stand beside each other around it.
func hasChord(r [][]int) bool {
	return slices.ContainsFunc(r, func(list []int) bool {
		if len(list) != 5 {
			return false
		}
		for i, u := range list {
			if slices.Contains(r[u], list[(i+2)%5]) {
				return true
			}
		}
		return false
	})
}

// The samples are what they are meant to be: no vertex has a degree below 5, and not all choices of two neighbours to make
// one of are right.
func TestFives(t *testing.T) {
	chords := 0
	for _, s := range fives() {
		if got := least(s.r); got != 5 {
			t.Errorf("%s: the least degree is %d", s.what, got)
		}
		if hasChord(s.r) {
			chords++
		}
	}
	if chords < len(fives())/6 {
		t.Errorf("%d of %d have neighbours that are joined across", chords, len(fives()))
	}
}
