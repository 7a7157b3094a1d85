package tjoin_test

import (
	"fmt"
	"testing"

	"filigree/api"
	"filigree/tjoin"
)

// upTo is the numbers from 0 to n - 1.
func upTo(n int) []int {
	list := make([]int, n)
	for i := range list {
		list[i] = i
	}
	return list
}

// isGreat fails the test unless Join answers so many edges of this cost, of which Check says OK. Multigraphs are too great to be
// shown.
func isGreat(t *testing.T, what string, m api.Graph, list []int, edges int, want int64) {
	t.Helper()
	in, cost, k := tjoin.Join(m, list)
	if k != api.OK || len(in) != edges || cost != want || sumOf(m, in) != want {
		t.Fatalf("%s: %d edges, not %d, of %d, %d, not %d, kind %d", what, len(in), edges, sumOf(m, in), cost, want, int(k))
	}
	isKind(t, what+": Check", tjoin.Check(m, list, in), api.OK)
	if len(in) > 0 {
		isKind(t, what+": Check of one less", tjoin.Check(m, list, in[1:]), api.BadWitness)
	}
}

// P1402: t of MaxMatch vertices; of one more some component has an odd number, of two more they are too many.
func TestMostOfT(t *testing.T) {
	const n = api.MaxMatch
	for _, w := range []int64{0, 1, api.MaxW - 1} {
		weight := func(int) int64 { return w }
		isGreat(t, "way", weighed(way(n), weight), upTo(n), n/2, n/2*w)
		isGreat(t, "ring", weighed(ring(n), weight), upTo(n), n/2, n/2*w)
	}
	isGreat(t, "star", star(n), upTo(n), n-1, n-1)
	isGreat(t, "star's points", star(n+1), upTo(n + 1)[1:], n, n)
	isGreat(t, "grid", grid(16, n/16), upTo(n), n/2, n/2)
	isGreat(t, "all", all(n), upTo(n), n/2, n/2)
	isGreat(t, "some of a grid", grid(32, 32), evened(grid(32, 32), upTo(n)), n/2, n/2)
	isGreat(t, "pairs", pairs(n/2), upTo(n), n/2, n/2)
	isGreat(t, "pairs, among others", pairs(n), upTo(n), n/2, n/2)
	for _, m := range []api.Graph{way(n + 1), star(n + 1), way(n + 2), all(n + 1), pairs(n/2 + 1)} {
		isRefused(t, "one more", m, upTo(n+1), api.NoMatching)
	}
	for _, m := range []api.Graph{way(n + 2), star(n + 2), ring(n + 2), all(n + 2), pairs(n/2 + 1), way(2 * n)} {
		isRefused(t, "two more", m, upTo(n+2), api.TooLarge)
	}
	isRefused(t, "two more, weights of 0", weighed(way(n+2), func(int) int64 { return 0 }), upTo(n+2), api.TooLarge)
	isRefused(t, "two more, odd ones", beside(way(n+1), api.Graph{N: 1}), upTo(n+2), api.NoMatching)
	isRefused(t, "two more, without edges", api.Graph{N: n + 2}, upTo(n+2), api.NoMatching)
	isRefused(t, "two more, and no vertex", way(n+1), upTo(n+2), api.BadArg)
}

// pairs is so many pairs of vertices, each joined by an edge of weight 1.
func pairs(count int) api.Graph {
	m := api.Graph{N: 2 * count}
	for v := 0; v < m.N; v += 2 {
		m.E = append(m.E, api.Edge{U: v, V: v + 1, W: 1})
	}
	return m
}

// P1402: two vertices that hang together and are one less than MaxCost apart, MaxCost apart, and more.
func TestFarApart(t *testing.T) {
	for _, far := range []int64{1, api.MaxW, api.MaxCost - api.MaxW, api.MaxCost - 2, api.MaxCost - 1} {
		m := apart(far)
		isGreat(t, fmt.Sprint("apart ", far), m, []int{0, m.N - 1}, m.N-1, far)
	}
	for _, far := range []int64{api.MaxCost, api.MaxCost + 1, api.MaxCost + api.MaxW, 3 * api.MaxCost} {
		m := apart(far)
		isRefused(t, fmt.Sprint("apart ", far), m, []int{0, m.N - 1}, api.TooLarge)
		isGreat(t, "neighbours", m, []int{0, 1}, 1, api.MaxW-1)
		isGreat(t, "nobody", m, nil, 0, 0)
	}
	// A shorter way is what counts.
	m := apart(api.MaxCost)
	last := m.N - 1
	m.E = append(m.E, api.Edge{U: last - 1, V: last, W: 0})
	isGreat(t, "a shorter edge", m, []int{0, last}, last, api.MaxCost-m.E[len(m.E)-2].W)
}

// P1402: the farthest two of t count, even if they are no pair of the join.
func TestFarthestTwo(t *testing.T) {
	m := apart(api.MaxCost)
	last := m.N - 1
	for _, list := range [][]int{{0, 1, last - 1, last}, {0, 1, 2, last}, {0, last - 2, last - 1, last}} {
		isRefused(t, fmt.Sprint(list), m, list, api.TooLarge)
	}
	m.E[last-1].W--
	isGreat(t, "one less", m, []int{0, 1, last - 1, last}, 2, m.E[0].W+m.E[last-1].W)
	// Two points of a star of ways, each of them far from the middle.
	half := apart(api.MaxCost / 2)
	star := half
	for range 3 {
		star = glued(star, half)
	}
	n := half.N - 1
	isRefused(t, "star's points", star, []int{n, 2 * n, 3 * n, 4 * n}, api.TooLarge)
	isRefused(t, "star's points and middle", star, []int{0, n, 2 * n, 3 * n}, api.TooLarge)
	isGreat(t, "star's middle and a point", star, []int{0, 3 * n}, n, api.MaxCost/2)
}

// glued is two multigraphs with the vertex 0 of both as one.
func glued(a, b api.Graph) api.Graph {
	m := api.Graph{N: a.N + b.N - 1, E: append([]api.Edge{}, a.E...)}
	name := func(v int) int {
		if v == 0 {
			return 0
		}
		return v + a.N - 1
	}
	for _, e := range b.E {
		m.E = append(m.E, api.Edge{U: name(e.U), V: name(e.V), W: e.W})
	}
	return m
}

// P1402: those that do not hang together are not apart: costs of several components may be as great as they are.
func TestFarApartBeside(t *testing.T) {
	near, far := apart(api.MaxCost-1), apart(api.MaxCost)
	last := near.N - 1
	both := beside(near, near, near)
	isGreat(t, "three", both, []int{0, last, last + 1, 2*last + 1, 2*last + 2, 3*last + 2}, 3*last, 3*(api.MaxCost-1))
	isRefused(t, "one of each", both, []int{0, last + 1}, api.NoMatching)
	for _, m := range []api.Graph{beside(near, far), beside(far, near), beside(far, way(2), near)} {
		var list []int
		part := partsOf(m)
		for v := range m.N {
			if v == 0 || v == m.N-1 || part[v] != part[v-1] || part[v] != part[v+1] {
				list = append(list, v)
			}
		}
		isRefused(t, "one of them too far", m, list, api.TooLarge)
	}
	isGreat(t, "the other one's alone", beside(far, near), []int{far.N, far.N + last}, last, api.MaxCost-1)
	isGreat(t, "neighbours of both", beside(far, near), []int{0, 1, far.N, far.N + 1}, 2, 2*(api.MaxW-1))
}

// P1402: the dearest join: each pair of MaxMatch vertices nearly MaxCost apart.
func TestDearest(t *testing.T) {
	leg := weighed(way(257), func(int) int64 { return api.MaxW - 1 })
	star, list := leg, []int{256}
	for len(list) < 64 {
		star = glued(star, leg)
		list = append(list, star.N-1)
	}
	isGreat(t, "star", star, list, 64*256, 64*256*(api.MaxW-1))
	row := apart(api.MaxCost - 1)
	var m api.Graph
	list = nil
	for range api.MaxMatch / 2 {
		list = append(list, m.N, m.N+row.N-1)
		m = api.Graph{N: m.N + row.N, E: append(m.E, beside(api.Graph{N: m.N}, row).E...)}
	}
	isGreat(t, "rows", m, list, api.MaxMatch/2*(row.N-1), api.MaxMatch/2*(api.MaxCost-1))
}

// P1401, P1402: MaxN vertices, MaxM edges; one more of them is refused.
func TestGreatMultigraphs(t *testing.T) {
	const n = api.MaxN
	isGreat(t, "no edge", api.Graph{N: n}, nil, 0, 0)
	isRefused(t, "no edge", api.Graph{N: n}, []int{0, n - 1}, api.NoMatching)
	isGreat(t, "way", way(n), []int{0, n - 1}, n-1, n-1)
	isGreat(t, "way, four", way(n), []int{0, 1, n - 2, n - 1}, 2, 2)
	isGreat(t, "ring", ring(n), []int{0, n - 1}, 1, 1)
	isGreat(t, "star", star(n), []int{1, 2, n - 2, n - 1}, 4, 4)
	isGreat(t, "far ends of weight 0", weighed(way(n), func(int) int64 { return 0 }), []int{0, n - 1}, n-1, 0)
	isRefused(t, "far ends", weighed(way(n), func(int) int64 { return api.MaxW - 1 }), []int{0, n - 1}, api.TooLarge)
	isRefused(t, "all of a way", way(n), upTo(n), api.TooLarge)
	isRefused(t, "all of a way, but one", way(n), upTo(n-1), api.NoMatching)
	isRefused(t, "all of the pairs", pairs(n/2), upTo(n), api.TooLarge)
	isRefused(t, "all of the pairs, but one", pairs(n/2), upTo(n)[1:], api.NoMatching)
	var m api.Graph
	var list []int
	rows := n / (api.MaxMatch / 2)
	for range api.MaxMatch / 2 {
		list = append(list, m.N, m.N+rows-1)
		m = api.Graph{N: m.N + rows, E: append(m.E, beside(api.Graph{N: m.N}, way(rows)).E...)}
	}
	isGreat(t, "ways beside each other", m, list, n-api.MaxMatch/2, n-api.MaxMatch/2)
	many := api.Graph{N: 3, E: make([]api.Edge, api.MaxM)}
	for i := range many.E {
		many.E[i] = api.Edge{U: i % 3, V: (i + i%2) % 3, W: int64(api.MaxM - i)}
	}
	isGreat(t, "MaxM", many, []int{0, 1}, 1, leastOf(last(many, 20))[3])
	isOdd(t, "MaxM", api.Graph{N: 3, E: many.E}, upTo(api.MaxM), oddOf(many, upTo(api.MaxM)))
	many.E = append(many.E, many.E[0])
	isRefused(t, "MaxM + 1", many, []int{0, 1}, api.TooLarge)
	isKind(t, "MaxM + 1", tjoin.Check(many, []int{0, 1}, nil), api.TooLarge)
	isOdd(t, "MaxM + 1", api.Graph{N: 3, E: many.E}, []int{0}, nil)
	isRefused(t, "MaxN + 1", way(n+1), []int{0, 1}, api.TooLarge)
	isKind(t, "MaxN + 1", tjoin.Check(way(n+1), []int{0, 1}, []int{0}), api.TooLarge)
}

// last is a multigraph with its last edges alone.
func last(m api.Graph, count int) api.Graph {
	return api.Graph{N: m.N, E: m.E[len(m.E)-count:]}
}

// P1401: Odd of more places than there can be edges, as each counts as often as it is there.
func TestOddOfManyPlaces(t *testing.T) {
	in := make([]int, api.MaxM+3)
	for i := range in {
		in[i] = i % 2
	}
	in = append(in, 2, 2, 2)
	isOdd(t, "many", way(4), in, oddOf(way(4), in))
	isKind(t, "many", tjoin.Check(way(4), oddOf(way(4), in), in), api.BadWitness)
}
