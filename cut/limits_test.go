package cut_test

import (
	"fmt"
	"slices"
	"testing"

	"filigree/api"
	"filigree/cut"
	"filigree/faces"
)

// isGreat fails the test unless Max answers sides of this weight, and Weight, Across and Bound agree with them. Graphs are too great
// to be shown.
func isGreat(t *testing.T, what string, g api.Graph, r [][]int, want int64) {
	t.Helper()
	side, w, k := cut.Max(g, r)
	if k != api.OK || len(side) != g.N || w != want {
		t.Fatalf("%s: Max: %d sides of %d, not %d, kind %d", what, len(side), w, want, int(k))
	}
	isGreatCut(t, what, g, side, want)
	if bound, k := cut.Bound(g); k != api.OK || bound < w || bound > totalOf(g) || totalOf(g) == w && bound != w {
		t.Fatalf("%s: Bound: %d, but a cut of %d, kind %d", what, bound, w, int(k))
	}
}

// isGreatCut fails the test unless Weight says this of sides, and Across the places that they are across.
func isGreatCut(t *testing.T, what string, g api.Graph, side []bool, want int64) {
	t.Helper()
	across, k := cut.Across(g, side)
	if w, kind := cut.Weight(g, side); w != want || k != api.OK || kind != api.OK || !slices.Equal(across, acrossOf(g, side)) {
		t.Fatalf("%s: %d across, Weight %d, not %d, kinds %d and %d", what, len(across), w, want, int(k), int(kind))
	}
}

// heavy is the graph of a system with all weights as great as may be.
func heavy(r [][]int) api.Graph { return weighed(of(r), func(int) int64 { return api.MaxW - 1 }) }

// P1502: MaxMatch faces of odd length are cut; with two more they are too many.
func TestMostOddFaces(t *testing.T) {
	const n = api.MaxMatch
	const most = api.MaxW - 1
	isGreat(t, "triangles apart", ones(apart(n/2)), apart(n/2), n)
	isGreat(t, "heavy triangles apart", heavy(apart(n/2)), apart(n/2), n*most)
	isGreat(t, "fan", ones(fan(n)), fan(n), 2*n)
	isGreat(t, "fan, with an outer face that counts", ones(fan(n-1)), fan(n-1), 2*(n-1))
	isGreat(t, "wheel", ones(wheel(n+1)), wheel(n+1), n+n/2)
	isGreat(t, "wheel of an odd ring", ones(wheel(n)), wheel(n), n-1+(n-1)/2)
	d := dice(1560)
	// Triangles alone: each has just one edge uncut at least, and by four colours no more than that is needed.
	r := d.triangles(n/2 + 2)
	g := ones(r)
	if dual, _ := faces.Dual(g, r); dual.N != n {
		t.Fatalf("triangles: %d faces", dual.N)
	}
	isGreat(t, "triangles", g, r, int64(2*(n/2)))
	isGreat(t, "heavy triangles", heavy(r), r, int64(2*(n/2))*most)
	r = d.braced(17, 17, 100) // 512 triangles, each beside a brace, and an even face around them
	isGreat(t, "braced grid", ones(r), r, 2*17*16)
	isRefused(t, "two triangles more", ones(apart(n/2+1)), apart(n/2+1), api.TooLarge)
	isRefused(t, "two odd faces more in a fan", ones(fan(n+1)), fan(n+1), api.TooLarge)
	isRefused(t, "two odd faces more in a wheel", ones(wheel(n+2)), wheel(n+2), api.TooLarge)
	isRefused(t, "too many, weights of 0", weighed(of(fan(n+1)), func(int) int64 { return 0 }), fan(n+1), api.TooLarge)
	r = d.triangles(n/2 + 3)
	isRefused(t, "triangles, one vertex more", ones(r), r, api.TooLarge)
	isRefused(t, "too many in all, few in each", ones(beside(fan(n/2), wheel(n/2+3))), beside(fan(n/2), wheel(n/2+3)), api.TooLarge)
	for _, g := range []api.Graph{ones(apart(n/2 + 1)), ones(r)} {
		isBound(t, "what is too large for Max is not for Bound", g, boundOf(g))
	}
}

// far is nested triangles: the innermost and the outermost face are as far apart as these weights make up, as each way between them
// goes over an edge of each ring.
func far(apart int64) (api.Graph, [][]int) {
	rings := int((apart + api.MaxW - 2) / (api.MaxW - 1))
	r := nest(rings, 3)
	g := of(r)
	for place, e := range g.E {
		g.E[place].W = api.MaxW - 1
		if e.U/3 == e.V/3 {
			g.E[place].W = min(api.MaxW-1, apart-int64(e.U/3)*(api.MaxW-1))
		}
	}
	return g, r
}

// P1502: two faces of odd length that hang together and are one less than MaxCost apart, MaxCost apart, and more.
func TestFarApart(t *testing.T) {
	for _, apart := range []int64{1, api.MaxW, api.MaxCost - api.MaxW, api.MaxCost - 1} {
		g, r := far(apart)
		isGreat(t, fmt.Sprint("apart ", apart), g, r, totalOf(g)-apart)
	}
	for _, apart := range []int64{api.MaxCost, api.MaxCost + 1, api.MaxCost + api.MaxW} {
		g, r := far(apart)
		isRefused(t, fmt.Sprint("apart ", apart), g, r, api.TooLarge)
	}
	near, r := far(api.MaxCost - 1)
	both := api.Graph{N: 2 * near.N, E: slices.Clone(near.E)}
	for _, e := range near.E {
		both.E = append(both.E, api.Edge{U: e.U + near.N, V: e.V + near.N, W: e.W})
	}
	isGreat(t, "two beside each other", both, beside(r, r), 2*(totalOf(near)-api.MaxCost+1))
}

// P1502: two faces that are too far apart are so, even if neither needs the other one.
func TestFarApartOfFour(t *testing.T) {
	// A brace in the outermost and in the innermost square makes two odd faces at each end, beside each other.
	rings := int(int64(api.MaxCost)/(api.MaxW-1)) + 3
	r := nest(rings, 4)
	behind := func(v, u, new int) { r[v] = slices.Insert(r[v], slices.Index(r[v], u)+1, new) }
	last := 4 * (rings - 1)
	behind(0, 3, 2)
	behind(2, 1, 0)
	behind(last, last+1, last+2)
	behind(last+2, last+3, last)
	g := heavy(r)
	if lengths, k := faces.Lengths(g, r); k != api.OK || countOdd(lengths) != 4 {
		t.Fatalf("nest: %d odd faces, kind %d", countOdd(lengths), int(k))
	}
	isRefused(t, "braced nest", g, r, api.TooLarge)
	light := weighed(g, func(place int) int64 { return g.E[place].W / 2 })
	isGreat(t, "braced nest, half the weights", light, r, totalOf(light)-2*(light.E[0].W))
}

// countOdd is how many of these are odd.
func countOdd(lengths []int) int {
	count := 0
	for _, length := range lengths {
		count += length % 2
	}
	return count
}

// P1501 to P1503: MaxN vertices with no edge, in a row, in a ring, and in a grid of great weights; one more is refused.
func TestGreatGraphs(t *testing.T) {
	const n = api.MaxN
	const most = api.MaxW - 1
	isGreat(t, "no edge", api.Graph{N: n}, alone(n), 0)
	isGreat(t, "way", heavy(way(n)), way(n), (n-1)*most)
	isGreat(t, "star", heavy(star(n)), star(n), (n-1)*most)
	isGreat(t, "odd ring", heavy(ring(n-1)), ring(n-1), (n-2)*most)
	isGreat(t, "grid", heavy(grid(512, 256)), grid(512, 256), (512*255+511*256)*most)
	isGreat(t, "few triangles of many vertices", ones(beside(alone(n/2), apart(100), way(n/4))), beside(alone(n/2), apart(100), way(n/4)), 200+n/4-1)
	isRefused(t, "one vertex more", api.Graph{N: n + 1}, alone(n+1), api.BadArg)
	isUnbound(t, "one vertex more", api.Graph{N: n + 1}, api.BadArg)
	isUnsided(t, "one vertex more", api.Graph{N: n + 1}, make([]bool, n+1))
}

// P1502: the dual of a graph of not more than MaxN vertices can have more of them: then it is too large, however few faces are odd.
func TestTooManyFaces(t *testing.T) {
	const n = api.MaxN
	// Two poles and the others in a ring, each joined to both: n - 2 squares; three bars halve as many of them.
	for _, bars := range []int{2, 3} {
		r := make([][]int, n)
		for v := 2; v < n; v++ {
			r[0] = append(r[0], v)
			r[v] = []int{0, 1}
		}
		r[1] = slices.Clone(r[0])
		slices.Reverse(r[1])
		for v := 10; v < 10+2*bars; v += 2 {
			r[v] = []int{0, 1, v + 1}
			r[v+1] = []int{0, v, 1}
		}
		g := ones(r)
		if bars == 2 {
			isGreat(t, "MaxN faces", g, r, int64(len(g.E)-bars))
		} else {
			isRefused(t, "a face more", g, r, api.TooLarge)
		}
	}
}

// P1501, P1503: MaxM edges of the greatest weights, which no plane has room for.
func TestMostEdges(t *testing.T) {
	const most = api.MaxW - 1
	g := full(api.MaxM)
	isBound(t, "MaxM", g, (api.MaxM-1)*most)
	side := make([]bool, g.N)
	isGreatCut(t, "nothing across", g, side, 0)
	for v := 0; v < g.N; v += 2 {
		side[v] = true
	}
	isGreatCut(t, "even and odd", g, side, weightOf(g, side))
	isRefused(t, "MaxM", g, rising(g), api.BadRotation)
	g.E[api.MaxM-1].W = 0
	isBound(t, "MaxM, the last of weight 0", g, (api.MaxM-1)*most)
	// Each edge across: the greatest sum there is.
	const half = 1 << 11
	two := api.Graph{N: 2 * half, E: make([]api.Edge, 0, half*half)}
	for u := range half {
		for v := range half {
			two.E = append(two.E, api.Edge{U: u, V: half + v, W: most})
		}
	}
	if len(two.E) != api.MaxM {
		t.Fatalf("%d edges", len(two.E))
	}
	side = slices.Concat(make([]bool, half), slices.Repeat([]bool{true}, half))
	isGreatCut(t, "all across", two, side, api.MaxM*most)
	isBound(t, "all across", two, api.MaxM*most)
	less := weighed(two, func(int) int64 { return -most })
	isGreatCut(t, "all across, below 0", less, side, -api.MaxM*most)
	isUnbound(t, "all across, below 0", less, api.NegativeWeight)
}
