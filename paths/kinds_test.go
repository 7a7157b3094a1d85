package paths_test

import (
	"fmt"
	"math"
	"testing"

	"filigree/api"
	"filigree/paths"
)

// isKind fails the test unless both are the same kind.
func isKind(t *testing.T, what string, got, want api.Kind) {
	t.Helper()
	if got != want {
		t.Errorf("%s: kind %d, not %d", what, int(got), int(want))
	}
}

// isRefused fails the test unless From and Check answer this kind, and From nothing else.
func isRefused(t *testing.T, what string, m api.Graph, v int, dist []int64, via []int, want api.Kind) {
	t.Helper()
	d, w, k := paths.From(m, v)
	if k != want || d != nil || w != nil {
		t.Errorf("%s: From: %d and %d numbers, kind %d, not %d", what, len(d), len(w), int(k), int(want))
	}
	isKind(t, what+": Check", paths.Check(m, v, dist, via), want)
}

// outside is numbers that are no vertices of n.
func outside(n int) []int { return []int{-1, -2, math.MinInt, n, n + 1, math.MaxInt} }

// P1201: what is right is told so, at the edges of each range too.
func TestRightOfRight(t *testing.T) {
	for _, s := range samples() {
		isKind(t, s.what, paths.Right(s.m), api.OK)
	}
	isKind(t, "weights at the ends", paths.Right(multi(2, [3]int64{0, 1, 0}, [3]int64{1, 0, api.MaxW - 1})), api.OK)
	isKind(t, "ends at the ends", paths.Right(multi(api.MaxN, [3]int64{api.MaxN - 1, 0, 1}, [3]int64{0, api.MaxN - 1, 1})), api.OK)
	isKind(t, "an empty list", paths.Right(api.Graph{N: 3, E: []api.Edge{}}), api.OK)
	isKind(t, "loops, twice, in any order", paths.Right(multi(3, [3]int64{2, 1, 5}, [3]int64{1, 2, 5}, [3]int64{0, 0, 1}, [3]int64{0, 0, 1})), api.OK)
}

// P1201 to P1203: each way of not being right has its kind; From and Check tell it too, whatever else they are given.
func TestWrongMultigraphs(t *testing.T) {
	for what, c := range wrongs() {
		isKind(t, what, paths.Right(c.m), c.want)
		for _, v := range []int{0, 1, -1, math.MaxInt} {
			isRefused(t, what, c.m, v, nil, nil, c.want)
			isRefused(t, what, c.m, v, []int64{0, 1}, []int{-1, 0}, c.want)
			isRefused(t, what, c.m, v, make([]int64, 5), make([]int, 7), c.want)
		}
	}
}

// P1201: of one edge that is wrong in two ways the kind that is named first.
func TestRightOrderOfKinds(t *testing.T) {
	many := make([]api.Edge, api.MaxM+1)
	for _, c := range []struct {
		what string
		m    api.Graph
		want api.Kind
	}{
		{"N below 0, too many edges", api.Graph{N: -1, E: many}, api.BadArg},
		{"N beyond, too many edges", api.Graph{N: api.MaxN + 1, E: many}, api.TooLarge},
		{"N beyond, no vertex", multi(api.MaxN+1, [3]int64{-1, 0, 0}), api.TooLarge},
		{"N beyond, weight", multi(api.MaxN+1, [3]int64{0, 0, -1}), api.TooLarge},
		{"too many edges", api.Graph{N: 1, E: many}, api.TooLarge},
		{"too many edges, no vertex", api.Graph{E: many}, api.TooLarge},
		{"no vertex, below 0", multi(2, [3]int64{2, 0, -1}), api.BadVertex},
		{"no vertex, beyond", multi(2, [3]int64{0, -1, api.MaxW}), api.BadVertex},
	} {
		isKind(t, c.what, paths.Right(c.m), c.want)
	}
}

// P1201: of two edges that are wrong the first one's kind, whatever the other's, and wherever they stand.
func TestRightFirstEdgeFirst(t *testing.T) {
	bad := map[api.Kind]api.Edge{
		api.BadVertex:      {U: 0, V: 3, W: 1},
		api.NegativeWeight: {U: 0, V: 1, W: -1},
		api.BadWeight:      {U: 2, V: 2, W: api.MaxW},
	}
	fine := api.Edge{U: 1, V: 0, W: 4}
	for first, a := range bad {
		for _, b := range bad {
			for _, list := range [][]api.Edge{{a, b}, {fine, a, b}, {a, fine, b}, {fine, fine, a, fine, b, fine}} {
				isKind(t, fmt.Sprint(list), paths.Right(api.Graph{N: 3, E: list}), first)
			}
		}
	}
}

// P1201: against the words, of multigraphs of few vertices with any ends and weights.
func TestRightByWords(t *testing.T) {
	d := dice(1201)
	seen := map[api.Kind]int{}
	for range 20000 {
		m := api.Graph{N: d.below(5) - 1}
		for range d.below(4) {
			weight := []int64{0, 1, api.MaxW - 1, api.MaxW, -1}[max(0, d.below(15)-10)]
			m.E = append(m.E, api.Edge{U: d.below(4), V: d.below(5) - d.below(2), W: weight})
		}
		want := rightOf(m)
		seen[want]++
		isKind(t, fmt.Sprint(m), paths.Right(m), want)
	}
	for _, k := range []api.Kind{api.OK, api.BadArg, api.BadVertex, api.NegativeWeight, api.BadWeight} {
		if seen[k] == 0 {
			t.Errorf("no multigraph of kind %d", int(k))
		}
	}
}

// rightOf is what P1201 says of a multigraph within the limits, word by word.
func rightOf(m api.Graph) api.Kind {
	if m.N < 0 {
		return api.BadArg
	}
	for _, e := range m.E {
		within := func(v int) bool { return 0 <= v && v <= m.N-1 }
		if !within(e.U) || !within(e.V) {
			return api.BadVertex
		}
		if e.W < 0 {
			return api.NegativeWeight
		}
		if e.W >= api.MaxW {
			return api.BadWeight
		}
	}
	return api.OK
}

// P1202, P1203: from no vertex there is no way, whatever the numbers are.
func TestNoVertex(t *testing.T) {
	for _, s := range samples() {
		dist, via := make([]int64, s.m.N), make([]int, s.m.N)
		if s.m.N > 0 {
			dist, via, _ = paths.From(s.m, 0)
		}
		for _, v := range outside(s.m.N) {
			isRefused(t, s.what, s.m, v, dist, via, api.BadVertex)
			isRefused(t, s.what, s.m, v, nil, nil, api.BadVertex)
		}
	}
}
