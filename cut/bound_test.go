package cut_test

import (
	"testing"

	"filigree/api"
	"filigree/cut"
)

// P1503: bounds told by hand.
func TestBoundTold(t *testing.T) {
	const most = api.MaxW - 1
	for _, c := range []struct {
		what string
		g    api.Graph
		want int64
	}{
		{"no vertex", api.Graph{}, 0},
		{"no edge", api.Graph{N: 4}, 0},
		{"an edge", edges(2, [3]int64{0, 1, 7}), 7},
		{"a way", of(way(5)), 10},
		{"a triangle", of(ring(3)), 5},
		{"a triangle with a 0", edges(3, [3]int64{0, 1, 9}, [3]int64{0, 2, 0}, [3]int64{1, 2, 5}), 14},
		{"a triangle of great weights", edges(3, [3]int64{0, 1, most}, [3]int64{0, 2, most}, [3]int64{1, 2, most - 1}), 2 * most},
		{"an even ring", of(ring(6)), 21},
		{"an odd ring", of(ring(5)), 14},
		{"K4", all(4, 5), 25},
		{"K5", all(5, 5), 45},
		{"K7", all(7, 3), 60},
		{"K3,3", of(between(3, 3)), 45},
		{"two triangles with a vertex in common", edges(5, [3]int64{0, 1, 4}, [3]int64{0, 2, 5}, [3]int64{0, 3, 8}, [3]int64{0, 4, 9}, [3]int64{1, 2, 6}, [3]int64{3, 4, 7}), 28},
		{"a triangle and a square with a vertex in common", edges(6, [3]int64{0, 1, 4}, [3]int64{0, 2, 5}, [3]int64{0, 3, 1}, [3]int64{0, 5, 1}, [3]int64{1, 2, 6}, [3]int64{3, 4, 1}, [3]int64{4, 5, 1}), 15},
		{"a triangle and a light edge hung on", edges(4, [3]int64{0, 1, 4}, [3]int64{0, 2, 5}, [3]int64{0, 3, 1}, [3]int64{1, 2, 6}), 12},
		{"two triangles and a light bridge", edges(6, [3]int64{0, 1, 4}, [3]int64{0, 2, 5}, [3]int64{0, 3, 1}, [3]int64{1, 2, 6}, [3]int64{3, 4, 7}, [3]int64{3, 5, 8}, [3]int64{4, 5, 9}), 29},
		{"two triangles apart", of(beside(ring(3), alone(1), ring(3))), 16},
		{"an even ring with a bar that halves it oddly", edges(4, [3]int64{0, 1, 4}, [3]int64{0, 2, 3}, [3]int64{0, 3, 6}, [3]int64{1, 2, 5}, [3]int64{2, 3, 8}), 23},
		{"an even ring with a bar that halves it evenly", edges(6, [3]int64{0, 1, 1}, [3]int64{0, 3, 1}, [3]int64{0, 5, 1}, [3]int64{1, 2, 1}, [3]int64{2, 3, 1}, [3]int64{3, 4, 1}, [3]int64{4, 5, 1}), 7},
	} {
		isBound(t, c.what, c.g, c.want)
	}
}

// between is the lists of the first a vertices and of the b ones behind them, each joined to all of the other side.
func between(a, b int) [][]int {
	r := make([][]int, a+b)
	for u := range a {
		for v := a; v < a+b; v++ {
			r[u] = append(r[u], v)
			r[v] = append(r[v], u)
		}
	}
	return r
}

// P1503: all graphs of at most 5 vertices, and some of 6, planar or not, block by block: a block as its closed ways tell it.
func TestBoundOfAll(t *testing.T) {
	d := dice(1520)
	for n := range 7 {
		smalls(n, func(g api.Graph) {
			if n == 6 && d.below(20) > 0 {
				return
			}
			for _, by := range d.weights() {
				g := weighed(g, by.weight)
				want := boundByWays(g)
				isBound(t, "small", g, want)
				if other := boundOf(g); other != want {
					t.Fatalf("the words disagree: %v: %d and %d", g, other, want)
				}
				if n < 6 && heaviestOf(g) > want {
					t.Fatalf("a heavier cut: %v: %d", g, heaviestOf(g))
				}
			}
		})
	}
}

// P1503, P1504: drawn graphs, planar or not: block by block, and no cut is above it.
func TestBoundOfDrawn(t *testing.T) {
	d := dice(1521)
	for range 3000 {
		g := d.graph(1+d.below(11), 5+d.below(60), []int{1, 2, 5, api.MaxW}[d.below(4)])
		isBound(t, "drawn", g, boundOf(g))
		if bound, _ := cut.Bound(g); heaviestOf(g) > bound {
			t.Fatalf("drawn: Bound(%v): %d, but a cut of %d", g, bound, heaviestOf(g))
		}
	}
	for range 300 {
		g := d.graph(30+d.below(30), 1+d.below(8), api.MaxW)
		isBound(t, "drawn, greater", g, boundOf(g))
		for range 5 {
			if bound, _ := cut.Bound(g); weightOf(g, climbed(g, d.truths(g.N))) > bound {
				t.Fatalf("drawn, greater: Bound(%v): %d, but a greater cut", g, bound)
			}
		}
	}
}

// P1503: graphs of many kinds, also with blocks in rows and around one vertex, under any names.
func TestBoundOfMany(t *testing.T) {
	d := dice(1522)
	for _, s := range samples(30) {
		isBound(t, s.what, s.g, boundOf(s.g))
	}
	for range 300 {
		r := ring(3 + d.below(4))
		for range d.below(8) {
			other := [][][]int{ring(3 + d.below(4)), wheel(4 + d.below(3)), way(2), between(3, 3), between(2, 4), rising(all(5, 1))}[d.below(6)]
			if d.below(3) == 0 {
				r = bridged(r, other)
			} else {
				r = glued(r, other)
			}
		}
		r = d.named(r)
		g := weighed(of(r), func(int) int64 { return int64(d.below(50)) })
		isBound(t, "blocks", g, boundOf(g))
	}
}

// isUnbound fails the test unless Bound answers this kind and nothing else.
func isUnbound(t *testing.T, what string, g api.Graph, want api.Kind) {
	t.Helper()
	if bound, k := cut.Bound(g); bound != 0 || k != want {
		t.Errorf("%s: Bound: %d, kind %d, not %d", what, bound, int(k), int(want))
	}
}

// P1503: graphs that are not right, also where a weight is below 0.
func TestBoundOfWrongGraphs(t *testing.T) {
	for what, g := range wrongs() {
		isUnbound(t, what, g, api.BadArg)
	}
	for what, g := range lightened(wrongs()) {
		isUnbound(t, what, g, api.BadArg)
	}
}

// lightened is graphs that are not right, with one more edge, of a weight below 0, ahead of the others; but not those of so many
// edges that they are too many.
func lightened(list map[string]api.Graph) map[string]api.Graph {
	light := map[string]api.Graph{}
	for what, g := range list {
		if len(g.E) < api.MaxM {
			light[what+", and a weight below 0"] = api.Graph{N: g.N, E: append([]api.Edge{{U: 0, V: 1, W: -1}}, g.E...)}
		}
	}
	return light
}

// P1503: a weight below 0 anywhere, in a block that counts or not.
func TestBoundOfNegativeWeights(t *testing.T) {
	for _, s := range samples(9) {
		for place := 0; place < len(s.g.E); place += 1 + len(s.g.E)/5 {
			for _, weight := range []int64{-1, 1 - api.MaxW} {
				g := weighed(s.g, func(int) int64 { return 3 })
				g.E[place].W = weight
				isUnbound(t, s.what, g, api.NegativeWeight)
			}
		}
	}
	isUnbound(t, "K5", all(5, -1), api.NegativeWeight)
}
