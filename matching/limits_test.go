package matching_test

import (
	"slices"
	"testing"

	"filigree/api"
	"filigree/matching"
)

// isGreat fails the test unless Perfect answers a matching that Holds holds; it tells what it costs. Multigraphs are too great to
// be shown.
func isGreat(t *testing.T, what string, m api.Graph) int64 {
	t.Helper()
	in, p, k := matching.Perfect(m)
	if k != api.OK || len(in) != m.N/2 || len(p.Y) != m.N {
		t.Fatalf("%s: %d places, %d numbers, kind %d", what, len(in), len(p.Y), int(k))
	}
	isKind(t, what+": Check", matching.Check(m, in), api.OK)
	isKind(t, what+": Holds", matching.Holds(m, in, p), api.OK)
	p.Y[m.N/2]++
	isKind(t, what+": Holds of a wrong Y", matching.Holds(m, in, p), api.BadWitness)
	return matching.Cost(m, in)
}

// isSum fails the test unless both are the same.
func isSum(t *testing.T, what string, got, want int64) {
	t.Helper()
	if got != want {
		t.Errorf("%s: it costs %d, not %d", what, got, want)
	}
}

// P1301 to P1304: MaxMatch vertices; one more is refused.
func TestMostVertices(t *testing.T) {
	const n, most = api.MaxMatch, api.MaxCost - 1
	isKind(t, "MaxMatch", matching.Right(api.Graph{N: n}), api.OK)
	isRefused(t, "no edge", api.Graph{N: n}, api.NoMatching)
	isRefused(t, "star", star(n), api.NoMatching)
	isRefused(t, "two odd ones", beside(all(n/2-1), all(n/2+1)), api.NoMatching)
	isRefused(t, "one less", all(n-1), api.NoMatching)
	for _, m := range []api.Graph{{N: n + 1}, all(n + 1), all(n + 2)} {
		isKind(t, "beyond", matching.Right(m), api.TooLarge)
		isKind(t, "beyond: Check", matching.Check(m, nil), api.TooLarge)
		isKind(t, "beyond: Holds", matching.Holds(m, nil, api.Proof{Y: make([]int64, m.N)}), api.TooLarge)
		isRefused(t, "beyond", m, api.TooLarge)
	}
	for _, w := range []int64{0, most, -most} {
		cost := func(int) int64 { return w }
		isSum(t, "way", isGreat(t, "way", priced(way(n), cost)), n/2*w)
		isSum(t, "ring", isGreat(t, "ring", priced(ring(n), cost)), n/2*w)
		isSum(t, "grid", isGreat(t, "grid", priced(grid(16, n/16), cost)), n/2*w)
		isSum(t, "all", isGreat(t, "all", priced(all(n), cost)), n/2*w)
	}
	m := all(n)
	isSum(t, "squares", isGreat(t, "squares", priced(m, func(place int) int64 { return squared(m.E[place]) })), n/2)
	// The sum of squares is greatest, if the first and the last one are partners, the second and the last but one, and so on.
	far := int64(0)
	for v := range int64(n / 2) {
		far += (n - 1 - 2*v) * (n - 1 - 2*v)
	}
	isSum(t, "squares below 0", isGreat(t, "squares below 0", priced(m, func(place int) int64 { return -squared(m.E[place]) })), -far)
}

// P1303, P1304: great multigraphs of other kinds, blossoms in blossoms among them.
func TestGreatOnes(t *testing.T) {
	const n, most = api.MaxMatch, api.MaxCost - 1
	d := dice(13054)
	m := all(n)
	near := int64(0)
	for v := range int64(n / 2) {
		near += v * (n - 1 - v)
	}
	isSum(t, "products", isGreat(t, "products", priced(m, func(place int) int64 { return int64(m.E[place].U) * int64(m.E[place].V) })), near)
	isGreat(t, "any", priced(m, func(int) int64 { return int64(d.below(2*api.MaxCost-1)) - most }))
	isGreat(t, "few", priced(m, func(int) int64 { return int64(d.below(4)) - 1 }))
	isGreat(t, "band", priced(band(n, 2), func(int) int64 { return int64(d.below(2*api.MaxCost-1)) - most }))
	isGreat(t, "paired", priced(d.paired(n, 2*n), func(int) int64 { return int64(d.below(100)) }))
	isGreat(t, "nest", priced(joined(d.nest(n/2-1), d.paired(n, n/8)), func(int) int64 { return int64(d.below(100)) }))
	// A way whose cheapest edges are in no perfect matching: numbers grow from end to end.
	isSum(t, "up and down", isGreat(t, "up and down", priced(way(n), func(place int) int64 { return int64(1-place%2*2) * most })), n/2*most)
	isSum(t, "down and up", isGreat(t, "down and up", priced(way(n), func(place int) int64 { return int64(place%2*2-1) * most })), -n/2*most)
}

// P1301 to P1304: MaxM edges; one more is refused.
func TestMostEdges(t *testing.T) {
	const n = api.MaxMatch
	d := dice(13055)
	m := priced(all(n), func(int) int64 { return int64(d.below(1000)) })
	cost := isGreat(t, "all", m)
	for i := 0; len(m.E) < api.MaxM; i++ {
		e := m.E[i]
		m.E = append(m.E, api.Edge{U: e.V, V: e.U, W: e.W + int64(d.below(2))})
	}
	isKind(t, "MaxM", matching.Right(m), api.OK)
	isSum(t, "MaxM", isGreat(t, "MaxM", m), cost)
	slices.Reverse(m.E)
	isSum(t, "MaxM, from behind", isGreat(t, "MaxM, from behind", m), cost)
	in, p, _ := matching.Perfect(m)
	m.E = append(m.E, m.E[0])
	isKind(t, "MaxM + 1", matching.Right(m), api.TooLarge)
	isKind(t, "MaxM + 1: Check", matching.Check(m, in), api.TooLarge)
	isKind(t, "MaxM + 1: Holds", matching.Holds(m, in, p), api.TooLarge)
	isSum(t, "MaxM + 1", matching.Cost(m, in), 0)
	isRefused(t, "MaxM + 1", m, api.TooLarge)

	side := api.Graph{N: 2, E: make([]api.Edge, api.MaxM)}
	for i := range side.E {
		side.E[i] = api.Edge{U: i % 2, V: 1 - i%2, W: int64(-i)}
	}
	isSum(t, "side by side", isGreat(t, "side by side", side), 1-api.MaxM)
}

// P1303: many sets, as great as they can be, and the same one many times.
func TestManySets(t *testing.T) {
	const n = api.MaxMatch
	isPair := func(e api.Edge) bool { return e.U%2 == 0 && e.V == e.U+1 }
	m := all(n)
	var in []int
	m = priced(m, func(place int) int64 {
		if isPair(m.E[place]) {
			in = append(in, place)
			return 0
		}
		return n
	})
	p := api.Proof{Y: make([]int64, n)}
	list := make([]int, n)
	for v := range list {
		list[v] = v
	}
	// Each set asks for 1 of each of its vertices, and gives back 2 to each pair of them; the vertex behind it makes up for its
	// last one.
	for length := 3; length < n; length += 2 {
		p.B = append(p.B, api.Blossom{In: list[:length], Z: 2})
		for v := range length {
			p.Y[v]--
		}
		p.Y[length]++
	}
	isKind(t, "nested sets", matching.Holds(m, in, p), api.OK)
	p.B[100].Z++
	isKind(t, "nested sets, one Z more by 1", matching.Holds(m, in, p), api.BadWitness)
	p.B[100].Z -= 2
	isKind(t, "nested sets, one Z less by 1", matching.Holds(m, in, p), api.BadWitness)
	p.B[100].Z++
	m.E[in[7]].W = -1
	isKind(t, "nested sets, a cheaper edge", matching.Holds(m, in, p), api.BadWitness)
	m.E[in[7]].W, m.E[0].W = 0, 1
	isKind(t, "nested sets, a dearer edge", matching.Holds(m, in, p), api.BadWitness)

	same := api.Proof{Y: []int64{-1 << 20, -1 << 20, -1 << 20, 1 << 20}, B: slices.Repeat([]api.Blossom{set(2, 0, 1, 2)}, 1<<20)}
	four := multi(4, [3]int64{0, 1, 0}, [3]int64{2, 3, 0}, [3]int64{0, 2, 0}, [3]int64{1, 3, 0})
	isKind(t, "one set many times", matching.Holds(four, []int{0, 1}, same), api.OK)
	isKind(t, "one set many times, but for once", matching.Holds(four, []int{0, 1}, api.Proof{Y: same.Y, B: same.B[1:]}), api.BadWitness)
}
