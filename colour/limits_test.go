package colour_test

import (
	"testing"

	"filigree/api"
	"filigree/colour"
	"filigree/rotation"
)

// P1101 to P1103: MaxN vertices and no edge have one colour; one vertex more is refused.
func TestMostVertices(t *testing.T) {
	g := api.Graph{N: api.MaxN}
	five := isFive(t, "no edge", g, alone(api.MaxN))
	greedy, k := colour.Greedy(g, falling(api.MaxN))
	if k != api.OK || colour.Used(five) != 1 || colour.Used(greedy) != 1 || colour.Check(g, greedy, 1) != api.OK {
		t.Errorf("%d and %d colours, kind %d", colour.Used(five), colour.Used(greedy), int(k))
	}
	g.N++
	isRefused(t, "one vertex more", g, alone(g.N), api.BadArg)
	isNoOrder(t, "one vertex more", g, upTo(g.N))
	if k := colour.Check(g, make([]int, g.N), 1); k != api.BadArg {
		t.Errorf("Check of one vertex more: kind %d", int(k))
	}
}

// P1102, P1105: MaxN vertices, with as many edges as the plane allows, of few neighbours each, and of very many.
func TestGreatTriangles(t *testing.T) {
	d := dice(1113)
	for what, r := range map[string][][]int{
		"any triangles":      d.triangles(api.MaxN),
		"rings of 5":         drum(5, (api.MaxN-2)/5),
		"many rings of many": drum(1<<10, 1<<10-1),
		"two great rings":    drum(api.MaxN/2-1, 2),
		"one great ring":     drum(api.MaxN-2, 1),
		"a star":             star(api.MaxN),
	} {
		g := of(r)
		isFive(t, what, g, r)
		c, k := colour.Greedy(g, d.order(g.N))
		if k != api.OK || colour.Check(g, c, mostDegree(g)+1) != api.OK {
			t.Errorf("%s: Greedy: kind %d", what, int(k))
		}
	}
}

// P1102: great graphs without a vertex of a degree below 5, in which many vertices become one.
func TestGreatFives(t *testing.T) {
	d := dice(1114)
	r := d.named(d.flipped(drum(100, 200), 200000))
	isFive(t, "flipped", of(r), r)
	r = d.raised(d.triangles(500))
	for range 5 {
		r = d.glued(r, 0, r[0][0], after(r[0], r[0][0]), r)
	}
	if least(r) < 5 {
		t.Errorf("a degree below 5")
	}
	isFive(t, "glued into itself", of(r), r)
}

// P1103: MaxM edges, which no plane has room for; one more is refused.
func TestMostEdges(t *testing.T) {
	g := full(api.MaxM)
	c, k := colour.Greedy(g, upTo(g.N))
	if k != api.OK || colour.Check(g, c, g.N) != api.OK || colour.Used(c) > mostDegree(g)+1 {
		t.Fatalf("Greedy: %d colours, kind %d", colour.Used(c), int(k))
	}
	for v := range g.E[len(g.E)-1].U {
		if c[v] != v {
			t.Fatalf("Greedy: the colour of %d, which is joined to all others: %d", v, c[v])
		}
	}
	r := rising(g)
	if c, k := colour.Five(g, r); k != api.BadRotation || c != nil || rotation.Right(g, r) != api.OK {
		t.Errorf("Five: %d colours, kind %d", len(c), int(k))
	}
	isNoOrder(t, "one edge more", full(api.MaxM+1), upTo(g.N))
}
