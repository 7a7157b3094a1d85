package planar_test

import (
	"testing"

	"filigree/api"
)

// chosen is the graph of n vertices and those of all pairs that a set holds.
func chosen(n int, set uint) api.Graph {
	g := api.Graph{N: n}
	for u := range n {
		for v := u + 1; v < n; v++ {
			if set&1 > 0 {
				g.E = append(g.E, api.Edge{U: u, V: v})
			}
			set >>= 1
		}
	}
	return g
}

// P901, P903: all graphs of at most 6 vertices. How many of them are planar is known.
func TestAllSmall(t *testing.T) {
	for n, want := range []int{1, 1, 2, 8, 64, 1023, 32071} {
		got := 0
		for set := range uint(1) << (n * (n - 1) / 2) {
			if decided(t, "small", chosen(n, set)).Planar {
				got++
			}
		}
		if got != want {
			t.Errorf("%d vertices: %d planar graphs, not %d", n, got, want)
		}
	}
}

// P901: some graphs of 7, 8 and 9 vertices, of few edges and of many.
func TestSomeSmall(t *testing.T) {
	d := dice(905)
	seen := map[bool]int{}
	for n := 7; n < 10; n++ {
		for range 20000 {
			set := uint(d.next())
			if d.below(2) > 0 {
				set |= uint(d.next())
			}
			if d.below(3) > 0 {
				set &= uint(d.next())
			}
			seen[decided(t, "small", chosen(n, set)).Planar]++
		}
	}
	if seen[true] < 5000 || seen[false] < 5000 {
		t.Errorf("too few of a kind: %v", seen)
	}
}

// P901: all graphs of 7 vertices and at least 14 edges; more than 15 are not in the plane.
func TestManyEdges(t *testing.T) {
	all := sorted(7, among(upTo(7)...)...)
	var leave func(g api.Graph, from, count int)
	leave = func(g api.Graph, from, count int) {
		if a := decided(t, "many edges", g); a.Planar && len(g.E) > 15 {
			t.Fatalf("planar: %v", g)
		}
		for place := from; place < len(g.E) && count > 0; place++ {
			leave(without(g, place), place, count-1)
		}
	}
	leave(all, 0, 5)
}
