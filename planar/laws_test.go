package planar_test

import (
	"slices"
	"testing"

	"filigree/api"
	"filigree/rotation"
)

// P903: vertices named anew, nothing else is told.
func TestNamedAnew(t *testing.T) {
	d := dice(907)
	for _, c := range inPlane() {
		for range 3 {
			isPlanar(t, c.what, d.named(c.g))
		}
	}
	for _, c := range notInPlane() {
		for range 3 {
			isNotPlanar(t, c.what, d.named(c.g))
		}
	}
}

// P903: without an edge a planar one is planar; and so on, till none is left.
func TestEdgesLeftOut(t *testing.T) {
	d := dice(908)
	for _, c := range inPlane() {
		for range 5 {
			if len(c.g.E) > 0 {
				isPlanar(t, c.what+", an edge less", without(c.g, d.below(len(c.g.E))))
			}
		}
	}
	for _, n := range []int{6, 15, 30} {
		g := d.named(sorted(n, d.triangles(n, false)...))
		for len(g.E) > 0 {
			g = without(g, d.below(len(g.E)))
			isPlanar(t, "fewer and fewer", g)
		}
	}
}

// P903: edges go from one that is not planar till it is: from then on it stays so.
func TestOnceOver(t *testing.T) {
	d := dice(909)
	for range 60 {
		n := 8 + d.below(12)
		g := sorted(n, d.denser(n, 4*n, nil)...)
		was := false
		for len(g.E) > 0 {
			is := decided(t, "fewer and fewer", g).Planar
			if was && !is {
				t.Fatalf("not planar with fewer edges: %v", g)
			}
			was = is
			g = without(g, d.below(len(g.E)))
		}
		if !was {
			t.Fatalf("an edge is not planar: %v", g)
		}
	}
}

// P901: of a witness no edge can be left out; a graph of its edges alone is not planar.
func TestWitnessAlone(t *testing.T) {
	for _, c := range notInPlane() {
		a := isNotPlanar(t, c.what, c.g)
		g := only(c.g, a.In)
		isNotPlanar(t, c.what+", the witness alone", g)
		for place := range g.E {
			isPlanar(t, c.what+", the witness without an edge", without(g, place))
		}
	}
}

// system is a system in the plane: it grows by new vertices, each joined to a corner of a face, and by edges between two
// corners of a face.
func (d *dice) system(n, chords int) [][]int {
	r := make([][]int, n)
	put := func(v, behind, u int) {
		r[v] = slices.Insert(r[v], slices.Index(r[v], behind)+1, u)
	}
	for v := 1; v < n; v++ {
		if d.below(10) == 0 {
			// It begins a component of its own.
			continue
		}
		u := d.below(v)
		behind := -1
		if len(r[u]) > 0 {
			behind = r[u][d.below(len(r[u]))]
		}
		put(u, behind, v)
		r[v] = []int{u}
	}
	for range chords {
		faces, _ := rotation.Faces(of(r), r)
		if len(faces) == 0 {
			return r
		}
		face := faces[d.below(len(faces))]
		a, b := face[d.below(len(face))], face[d.below(len(face))]
		if a.V == b.V || slices.Contains(r[a.V], b.V) {
			continue
		}
		put(a.V, a.U, b.V)
		put(b.V, b.U, a.V)
	}
	return r
}

// of is the graph of a system.
func of(r [][]int) api.Graph {
	var ends []int
	for v, list := range r {
		for _, u := range list {
			if v < u {
				ends = append(ends, v, u)
			}
		}
	}
	return sorted(len(r), ends...)
}

// P903: a graph that has a system in the plane is told planar.
func TestSystemFirst(t *testing.T) {
	d := dice(910)
	for n := 2; n < 60; n++ {
		for _, chords := range []int{n / 4, n, 4 * n} {
			r := d.system(n, chords)
			g := of(r)
			if k := rotation.Plane(g, r); k != api.OK {
				t.Fatalf("the system that was made: %v: kind %d", r, int(k))
			}
			isPlanar(t, "a system first", g)
			isPlanar(t, "a system first, named anew", d.named(g))
		}
	}
}

// P903: one that has a witness is told not planar: it is made first, and lies in a greater graph, which is else planar,
// or any.
func TestWitnessFirst(t *testing.T) {
	d := dice(911)
	for more := range 60 {
		for _, bad := range [][]int{among(upTo(5)...), between(3, 3)} {
			n, ends := d.longer(slices.Max(bad)+1, d.below(1+more), bad)
			// The rest of a planar graph hangs at the witness by many edges.
			rest := 3 + d.below(20)
			all := append(slices.Clone(ends), moved(n, d.thinner(80, d.triangles(rest, false)))...)
			for v := range rest {
				if d.below(2) > 0 {
					all = append(all, d.below(n), n+v)
				}
			}
			isNotPlanar(t, "a witness first", d.named(sorted(n+rest, all...)))
			isNotPlanar(t, "a witness first, within any", d.named(sorted(n+rest, d.denser(n+rest, rest, ends)...)))
		}
	}
}

// P903: a planar graph and an edge between two of its vertices: either may be; but if it is planar, then the graph without
// that edge is in the plane in the same order.
func TestAnEdgeMore(t *testing.T) {
	d := dice(912)
	seen := map[bool]int{}
	for _, c := range inPlane() {
		for range 4 {
			ends := d.denser(c.g.N, 1, endsOf(c.g))
			if len(ends) == 2*len(c.g.E) {
				continue
			}
			u, v := ends[len(ends)-2], ends[len(ends)-1]
			a := decided(t, c.what+", an edge more", sorted(c.g.N, ends...))
			seen[a.Planar]++
			if !a.Planar {
				continue
			}
			r := slices.Clone(a.R)
			r[u] = slices.DeleteFunc(slices.Clone(r[u]), func(w int) bool { return w == v })
			r[v] = slices.DeleteFunc(slices.Clone(r[v]), func(w int) bool { return w == u })
			if k := rotation.Plane(c.g, r); k != api.OK {
				t.Fatalf("%s: without the edge: kind %d", c.what, int(k))
			}
		}
	}
	if seen[true] < 100 || seen[false] < 100 {
		t.Errorf("too few of a kind: %v", seen)
	}
}
