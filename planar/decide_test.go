package planar_test

import (
	"slices"
	"testing"

	"filigree/api"
	"filigree/kuratowski"
	"filigree/planar"
	"filigree/rotation"
)

// decided is what Decide answers. The test fails unless the answer holds by the checkers below, and Holds says so.
func decided(t *testing.T, what string, g api.Graph) planar.Answer {
	t.Helper()
	a, k := planar.Decide(g)
	if k != api.OK {
		t.Fatalf("%s: Decide: kind %d", what, int(k))
	}
	if a.Planar {
		if k := rotation.Plane(g, a.R); k != api.OK || len(a.In) > 0 {
			t.Fatalf("%s: Plane of %v: kind %d; a witness beside it: %v", what, a.R, int(k), a.In)
		}
	} else {
		if k := kuratowski.Check(g, a.In); k != api.OK || len(a.R) > 0 {
			t.Fatalf("%s: Check of %v: kind %d; a system beside it: %v", what, a.In, int(k), a.R)
		}
	}
	if k := planar.Holds(g, a); k != api.OK {
		t.Fatalf("%s: Holds of %v: kind %d", what, a, int(k))
	}
	return a
}

// isPlanar fails the test unless g is told planar.
func isPlanar(t *testing.T, what string, g api.Graph) planar.Answer {
	t.Helper()
	a := decided(t, what, g)
	if !a.Planar {
		t.Fatalf("%s: not planar: %v", what, a.In)
	}
	return a
}

// isNotPlanar fails the test unless g is told not planar.
func isNotPlanar(t *testing.T, what string, g api.Graph) planar.Answer {
	t.Helper()
	a := decided(t, what, g)
	if a.Planar {
		t.Fatalf("%s: planar: %v", what, a.R)
	}
	return a
}

// P901: the chapter's example, and K3,3 likewise: all edges are the witness, and without one of them it is planar.
func TestExample(t *testing.T) {
	for what, g := range map[string]api.Graph{"K5": sorted(5, among(upTo(5)...)...), "K3,3": sorted(6, between(3, 3)...)} {
		in := isNotPlanar(t, what, g).In
		slices.Sort(in)
		if !slices.Equal(in, upTo(len(g.E))) {
			t.Errorf("%s: witness %v", what, in)
		}
		for place := range g.E {
			isPlanar(t, what+" without an edge", without(g, place))
		}
	}
}

// P901: graphs in the plane, of many kinds.
func TestInPlane(t *testing.T) {
	for _, c := range inPlane() {
		isPlanar(t, c.what, c.g)
	}
}

// P901: graphs that are not, of many kinds.
func TestNotInPlane(t *testing.T) {
	for _, c := range notInPlane() {
		isNotPlanar(t, c.what, c.g)
	}
}

// P901: of a graph without an edge each list is empty.
func TestNoEdge(t *testing.T) {
	for _, n := range []int{0, 1, 2, 5, 100} {
		a := isPlanar(t, "no edge", api.Graph{N: n})
		if len(a.R) != n || slices.ContainsFunc(a.R, func(list []int) bool { return len(list) > 0 }) {
			t.Errorf("%d vertices: %v", n, a.R)
		}
	}
	isPlanar(t, "no edge, but a list", api.Graph{N: 3, E: []api.Edge{}})
	isPlanar(t, "an edge", sorted(2, 0, 1))
	isPlanar(t, "an edge among others", sorted(5, 1, 3))
}

// P901: components in any number, beside each other and by their names within each other.
func TestComponents(t *testing.T) {
	d := dice(901)
	var ends []int
	n := 0
	for _, c := range inPlane()[:60] {
		ends = append(ends, moved(n, endsOf(c.g))...)
		n += c.g.N + 1
	}
	g := sorted(n, ends...)
	isPlanar(t, "many components", g)
	isPlanar(t, "many components, named anew", d.named(g))
	for what, bad := range map[string][]int{"K5": among(upTo(5)...), "K3,3": between(3, 3), "Petersen": petersen()} {
		g := sorted(n+10, append(slices.Clone(ends), moved(n, bad)...)...)
		isNotPlanar(t, what+" beside many components", g)
		isNotPlanar(t, what+" beside many components, named anew", d.named(g))
		g = sorted(n+10, append(moved(10, ends), bad...)...)
		isNotPlanar(t, what+" ahead of many components", g)
	}
}

// atOne is n and the ends of so many graphs that have vertex 0 in common.
func atOne(graphs ...[]int) (int, []int) {
	n, all := 1, []int{}
	for _, ends := range graphs {
		for _, v := range ends {
			if v > 0 {
				v += n - 1
			}
			all = append(all, v)
		}
		n += slices.Max(ends)
	}
	return n, all
}

// P901: many blocks at one cut vertex; then one of them is not in the plane.
func TestBlocksAtOne(t *testing.T) {
	d := dice(902)
	blocks := [][]int{round(0, 1, 2), {0, 1}, wheel(7), among(0, 1, 2, 3), {0, 1}, between(2, 5), grid(3, 4, false),
		d.triangles(12, false), round(upTo(9)...), along(0, 1, 2), d.outer(11), solid(5, 2, true)}
	n, ends := atOne(blocks...)
	isPlanar(t, "blocks", sorted(n, ends...))
	isPlanar(t, "blocks, named anew", d.named(sorted(n, ends...)))
	for at := range blocks {
		for _, bad := range [][]int{among(upTo(5)...), between(3, 3), petersen(), between(4, 4)} {
			n, ends := atOne(slices.Insert(slices.Clone(blocks), at, bad)...)
			isNotPlanar(t, "a bad block", sorted(n, ends...))
			isNotPlanar(t, "a bad block, named anew", d.named(sorted(n, ends...)))
		}
	}
}

// P901: blocks in a row, each hanging on the one ahead of it by a cut vertex or a bridge.
func TestBlocksInRow(t *testing.T) {
	d := dice(903)
	for range 40 {
		n, last := 1, 0
		var ends []int
		hang := func(some []int) {
			// Vertex 0 of the next block is one of those that are there.
			for _, v := range some {
				if v == 0 {
					ends = append(ends, last)
				} else {
					ends = append(ends, n+v-1)
				}
			}
			n += slices.Max(some)
			last = d.below(n)
		}
		for range 1 + d.below(12) {
			hang([][]int{{0, 1}, wheel(5), d.triangles(9, false), round(0, 1, 2, 3), between(2, 4)}[d.below(5)])
		}
		isPlanar(t, "a row", d.named(sorted(n, ends...)))
		hang([][]int{among(upTo(5)...), between(3, 3), band(4, true)}[d.below(3)])
		for range d.below(5) {
			hang([][]int{{0, 1}, wheel(5)}[d.below(2)])
		}
		isNotPlanar(t, "a row with a bad block", d.named(sorted(n, ends...)))
	}
}

// P901: vertices of degree 1 hang at all vertices, in the plane or not; they are in no witness.
func TestDegreeOne(t *testing.T) {
	hung := func(g api.Graph) api.Graph {
		ends := endsOf(g)
		for v := range g.N {
			ends = append(ends, v, g.N+v)
		}
		return sorted(2*g.N, ends...)
	}
	for _, c := range inPlane()[:80] {
		isPlanar(t, c.what, hung(c.g))
	}
	for _, c := range notInPlane()[:80] {
		g := hung(c.g)
		for _, place := range isNotPlanar(t, c.what, g).In {
			if g.E[place].V >= c.g.N {
				t.Fatalf("%s: an edge of degree 1 in the witness", c.what)
			}
		}
	}
}

// P901: a graph that is a witness is its own witness, as no edge of it can be left out.
func TestNothingToLeaveOut(t *testing.T) {
	d := dice(904)
	for more := range 40 {
		for _, ends := range [][]int{among(upTo(5)...), between(3, 3)} {
			n, long := d.longer(slices.Max(ends)+1, more*more/8, ends)
			g := d.named(sorted(n+more%3, long...))
			if in := isNotPlanar(t, "a witness", g).In; len(in) != len(g.E) {
				t.Fatalf("%d edges of %d", len(in), len(g.E))
			}
			for place := range g.E {
				isPlanar(t, "a witness without an edge", without(g, place))
			}
		}
	}
}

// P901: the same answer for the same graph, and weights change nothing.
func TestSameAgain(t *testing.T) {
	for _, c := range slices.Concat(inPlane(), notInPlane()) {
		a := decided(t, c.what, c.g)
		h := api.Graph{N: c.g.N, E: slices.Clone(c.g.E)}
		for i := range h.E {
			h.E[i].W = int64(i%3-1) * (api.MaxW - 1)
		}
		b := decided(t, c.what, h)
		if a.Planar != b.Planar || !slices.Equal(a.In, b.In) || !slices.EqualFunc(a.R, b.R, slices.Equal) {
			t.Fatalf("%s: %v, then %v", c.what, a, b)
		}
	}
}
