package planar_test

import (
	"slices"
	"testing"

	"filigree/api"
	"filigree/planar"
)

// P901: MaxN vertices, and one more.
func TestMostVertices(t *testing.T) {
	n := api.MaxN
	isPlanar(t, "no edge", api.Graph{N: n})
	isPlanar(t, "a way", sorted(n, along(upTo(n)...)...))
	isPlanar(t, "a star", sorted(n, between(1, n-1)...))
	isPlanar(t, "a ring", sorted(n, round(upTo(n)...)...))
	five := sorted(n, moved(n-5, among(upTo(5)...))...)
	isNotPlanar(t, "K5 at the end", five)
	five.N++
	if a, k := planar.Decide(five); k != api.BadArg || a.In != nil {
		t.Errorf("one vertex too many: %v, kind %d", a, int(k))
	}
	isHeld(t, "one vertex too many", five, witnessOf(upTo(10)...), api.BadArg)
}

// P901: many vertices in few blocks.
func TestGreatInPlane(t *testing.T) {
	d := dice(913)
	side := 1 << 9
	for what, g := range map[string]api.Graph{
		"grid":              sorted(side*side, grid(side, side, false)...),
		"wheel":             sorted(side*side, wheel(side*side)...),
		"two joined to all": sorted(side*side, between(2, side*side-2)...),
		"triangles":         sorted(side*side, d.triangles(side*side, false)...),
		"newest triangles":  sorted(side*side, d.triangles(side*side, true)...),
		"band":              sorted(side*side, band(side*side/2, false)...),
		"chords":            sorted(side*side, d.outer(side*side)...),
	} {
		isPlanar(t, what, g)
		isPlanar(t, what+", named anew", d.named(g))
	}
}

// stretched is the graph of MaxN vertices in which the first pair of these ends is a way over all vertices from n on.
func stretched(n int, ends []int) api.Graph {
	list := append([]int{ends[0]}, upTo(api.MaxN)[n:]...)
	return sorted(api.MaxN, append(along(append(list, ends[1])...), ends[2:]...)...)
}

// P901: witnesses of MaxN vertices, of which no edge can be left out.
func TestGreatWitnesses(t *testing.T) {
	for what, g := range map[string]api.Graph{"K5": stretched(5, among(upTo(5)...)), "K3,3": stretched(6, between(3, 3))} {
		if in := isNotPlanar(t, what, g).In; len(in) != len(g.E) {
			t.Errorf("%s: %d edges of %d", what, len(in), len(g.E))
		}
		isPlanar(t, what+" without an edge", without(g, len(g.E)/2))
	}
}

// onion is n and the ends of closed ways within each other, each hanging on the next by two edges beside each other, so
// that what is within can be turned over. Innermost are some triangles. Vertex 0 is outside, the last one innermost.
func onion(layers int) (int, []int) {
	ends := []int{0, 1, 0, 4}
	n := 1
	for layer := range layers {
		ends = append(ends, round(n, n+1, n+2, n+3)...)
		ends = append(ends, n+1, n+4, n+2, n+7)
		n += 4
		if layer == layers-1 {
			ends[len(ends)-1] = n + 1
		}
	}
	for range 4 {
		ends = append(ends, round(n, n+1, n+2)...)
		ends = append(ends, n, n+3, n+1, n+4, n+2, n+5)
		n += 3
	}
	return n, ends[:len(ends)-6]
}

// P901: many vertices in one block, and a few edges too many.
func TestGreatNotInPlane(t *testing.T) {
	d := dice(914)
	side := 100
	n := side * side
	some := d.thinner(70, d.triangles(n, false))
	layers, shells := onion(400)
	isPlanar(t, "onion", sorted(layers, shells...))
	for what, g := range map[string]api.Graph{
		"grid and a far edge":  sorted(n, append(grid(side, side, false), side+1, n-side-2)...),
		"grid and a near edge": sorted(n, append(grid(side, side, false), n/2+50, n/2+50+2*side+2)...),
		"grid on a ring":       sorted(n, grid(side, side, true)...),
		"turned band":          sorted(n, band(n/2, true)...),
		"three joined to all":  sorted(n, between(3, n-3)...),
		"triangles and edges":  sorted(n, d.denser(n, 3, some)...),
		"triangles and many":   sorted(n, d.denser(n, n, some)...),
		"any":                  sorted(n, d.denser(n, 2*n, nil)...),
		"onion and an edge":    sorted(layers, append(shells, 0, layers-1)...),
	} {
		isNotPlanar(t, what, g)
		isNotPlanar(t, what+", named anew", d.named(g))
	}
}

// P901: MaxM edges, and one more.
func TestMostEdges(t *testing.T) {
	g := full(api.MaxM)
	in := isNotPlanar(t, "full", g).In
	if len(in) == 0 || slices.Max(in) >= len(g.E) {
		t.Errorf("witness %v", in)
	}
	g = full(api.MaxM + 1)
	if a, k := planar.Decide(g); k != api.BadArg || a.In != nil {
		t.Errorf("one edge too many: %v, kind %d", a, int(k))
	}
	isHeld(t, "one edge too many", g, witnessOf(in...), api.BadArg)
}
