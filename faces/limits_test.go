package faces_test

import (
	"slices"
	"testing"

	"filigree/api"
	"filigree/faces"
	"filigree/rotation"
)

// P1001 to P1003: MaxN vertices and no edge have no face, and are joined to a star; one vertex more is refused.
func TestMostVertices(t *testing.T) {
	g, r := api.Graph{N: api.MaxN}, alone(api.MaxN)
	sides, k := faces.Sides(g, r)
	if k != api.OK || len(sides) != 0 {
		t.Errorf("Sides: %d, kind %d", len(sides), int(k))
	}
	if dual, k := faces.Dual(g, r); k != api.OK || dual.N != 0 || len(dual.E) != 0 {
		t.Errorf("Dual: %d vertices, kind %d", dual.N, int(k))
	}
	joined, lists, k := faces.Joined(g, r)
	if k != api.OK || joined.N != api.MaxN || len(joined.E) != api.MaxN-1 || !slices.Equal(lists[0], upTo(api.MaxN)[1:]) {
		t.Fatalf("Joined: %d edges, kind %d", len(joined.E), int(k))
	}
	for i, e := range joined.E {
		if e != (api.Edge{U: 0, V: i + 1}) || !slices.Equal(lists[i+1], []int{0}) {
			t.Fatalf("Joined: edge %d: %v, list %v", i, e, lists[i+1])
		}
	}
	lengths, k := faces.Lengths(joined, lists)
	if k != api.OK || !slices.Equal(lengths, []int{2 * len(joined.E)}) {
		t.Errorf("Lengths of a star: %d faces, kind %d", len(lengths), int(k))
	}
	isRefused(t, "one vertex more", api.Graph{N: api.MaxN + 1}, alone(api.MaxN+1), api.BadArg)
}

// P1001 to P1004: MaxN vertices with as many edges as the plane allows: the dual has more than MaxN vertices.
func TestMostFaces(t *testing.T) {
	d := dice(1006)
	r := d.triangles(api.MaxN)
	g := of(r)
	dual, k := faces.Dual(g, r)
	if k != api.OK || dual.N != 2*api.MaxN-4 || len(dual.E) != 3*api.MaxN-6 {
		t.Fatalf("Dual: %d vertices, %d edges, kind %d", dual.N, len(dual.E), int(k))
	}
	degrees := make([]int, dual.N)
	for i, e := range dual.E {
		if e.U == e.V || e.W != g.E[i].W {
			t.Fatalf("Dual: edge %d: %v", i, e)
		}
		degrees[e.U]++
		degrees[e.V]++
	}
	if slices.Min(degrees) != 3 || slices.Max(degrees) != 3 {
		t.Errorf("Dual: degrees are not all 3")
	}
}

// P1003, P1004: many components, each of some vertices, named in any order.
func TestManyComponents(t *testing.T) {
	d := dice(1007)
	one := beside(ring(3), alone(1), wheel(5), grid(2, 3))
	var many [][][]int
	for range 10000 {
		many = append(many, one)
	}
	r := d.named(beside(many...))
	g := weighed(of(r))
	isLawful(t, "many components", g, r)
	joined, lists, _ := faces.Joined(g, r)
	if got := len(joined.E) - len(g.E); got != 4*len(many)-1 {
		t.Errorf("%d new edges", got)
	}
	if want := slices.Concat(r[0], othersOf(g)); !slices.Equal(lists[0], want) {
		t.Errorf("the list of 0: %v, not %v", lists[0], want)
	}
}

// P1001, P1004: a great grid has as many faces as are known; a great bagel is refused.
func TestGreat(t *testing.T) {
	const side = 1 << 8
	r := grid(side, side)
	isLawful(t, "grid", of(r), r)
	lengths, _ := faces.Lengths(of(r), r)
	slices.Sort(lengths)
	if n := len(lengths); n != (side-1)*(side-1)+1 || lengths[0] != 4 || lengths[n-2] != 4 || lengths[n-1] != 4*(side-1) {
		t.Errorf("grid: %d faces", n)
	}
	isRefused(t, "bagel", of(bagel(side, side)), bagel(side, side), api.BadRotation)
}

// P1001 to P1003: MaxM edges, which no plane has room for.
func TestMostEdges(t *testing.T) {
	g := full(api.MaxM)
	r := rising(g)
	if sides, k := faces.Sides(g, r); k != api.BadRotation || sides != nil || rotation.Right(g, r) != api.OK {
		t.Errorf("Sides: %d, kind %d", len(sides), int(k))
	}
}
