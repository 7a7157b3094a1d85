package matching_test

import (
	"fmt"
	"testing"

	"filigree/api"
	"filigree/matching"
)

// isKind fails the test unless both are the same kind.
func isKind(t *testing.T, what string, got, want api.Kind) {
	t.Helper()
	if got != want {
		t.Errorf("%s: kind %d, not %d", what, int(got), int(want))
	}
}

// isRefused fails the test unless Perfect answers this kind and nothing else.
func isRefused(t *testing.T, what string, m api.Graph, want api.Kind) {
	t.Helper()
	in, p, k := matching.Perfect(m)
	if k != want || len(in) != 0 || len(p.Y) != 0 || len(p.B) != 0 {
		t.Errorf("%s: Perfect: %d places, %d and %d numbers, kind %d, not %d", what, len(in), len(p.Y), len(p.B), int(k), int(want))
	}
}

// P1301: what is right is told so, at the edges of each range too.
func TestRightOfRight(t *testing.T) {
	const most = api.MaxCost - 1
	isKind(t, "no vertex", matching.Right(api.Graph{}), api.OK)
	isKind(t, "a vertex alone", matching.Right(api.Graph{N: 1}), api.OK)
	isKind(t, "an empty list", matching.Right(api.Graph{N: 3, E: []api.Edge{}}), api.OK)
	isKind(t, "costs at the ends", matching.Right(multi(2, [3]int64{0, 1, most}, [3]int64{1, 0, -most}, [3]int64{0, 1, 0})), api.OK)
	isKind(t, "ends at the ends", matching.Right(multi(api.MaxMatch, [3]int64{api.MaxMatch - 1, 0, 1}, [3]int64{0, api.MaxMatch - 1, 1})), api.OK)
	isKind(t, "twice, in any order", matching.Right(multi(3, [3]int64{2, 1, 5}, [3]int64{1, 2, 5}, [3]int64{1, 0, 1}, [3]int64{1, 0, 1})), api.OK)
	for _, s := range samples(12) {
		isKind(t, s.what, matching.Right(s.m), api.OK)
	}
}

// P1301 to P1304: each way of not being right has its kind; all calls tell it, whatever else they are given.
func TestWrongMultigraphs(t *testing.T) {
	for what, c := range wrongs() {
		isKind(t, what, matching.Right(c.m), c.want)
		isRefused(t, what, c.m, c.want)
		for _, in := range [][]int{nil, {}, {0}, {0, 1}, {1, 0}, {-1}, {7, 7, 7}} {
			isKind(t, what+": Check", matching.Check(c.m, in), c.want)
			if got := matching.Cost(c.m, in); got != 0 {
				t.Errorf("%s: Cost of %v: %d", what, in, got)
			}
			for _, p := range []api.Proof{{}, {Y: []int64{0, -2}}, {Y: make([]int64, 7), B: []api.Blossom{{Z: -1}}}} {
				isKind(t, what+": Holds", matching.Holds(c.m, in, p), c.want)
			}
		}
	}
}

// P1301: of what is wrong in two ways the kind that is named first.
func TestRightOrderOfKinds(t *testing.T) {
	many := make([]api.Edge, api.MaxM+1)
	for _, c := range []struct {
		what string
		m    api.Graph
		want api.Kind
	}{
		{"N below 0, too many edges", api.Graph{N: -1, E: many}, api.BadArg},
		{"N beyond, too many edges", api.Graph{N: api.MaxMatch + 1, E: many}, api.TooLarge},
		{"N beyond, no vertex", multi(api.MaxMatch+1, [3]int64{-1, 0, 0}), api.TooLarge},
		{"N beyond, a loop", multi(api.MaxMatch+1, [3]int64{0, 0, 0}), api.TooLarge},
		{"N beyond, cost", multi(api.MaxMatch+1, [3]int64{0, 1, api.MaxCost}), api.TooLarge},
		{"too many edges, loops", api.Graph{N: 1, E: many}, api.TooLarge},
		{"too many edges, no vertex", api.Graph{E: many}, api.TooLarge},
		{"no vertex, a loop", multi(2, [3]int64{-1, -1, 0}), api.BadVertex},
		{"no vertex, a loop, cost", multi(2, [3]int64{2, 2, api.MaxCost}), api.BadVertex},
		{"no vertex, cost", multi(2, [3]int64{0, -1, -api.MaxCost}), api.BadVertex},
		{"a loop, cost", multi(2, [3]int64{0, 0, -api.MaxCost}), api.Loop},
	} {
		isKind(t, c.what, matching.Right(c.m), c.want)
	}
}

// P1301: of two edges that are wrong the first one's kind, whatever the other's, and wherever they stand.
func TestRightFirstEdgeFirst(t *testing.T) {
	bad := map[api.Kind]api.Edge{
		api.BadVertex: {U: 0, V: 3, W: 1},
		api.Loop:      {U: 2, V: 2, W: 1},
		api.BadWeight: {U: 2, V: 1, W: api.MaxCost},
	}
	fine := api.Edge{U: 1, V: 0, W: -4}
	for first, a := range bad {
		for _, b := range bad {
			for _, list := range [][]api.Edge{{a, b}, {fine, a, b}, {a, fine, b}, {fine, fine, a, fine, b, fine}} {
				isKind(t, fmt.Sprint(list), matching.Right(api.Graph{N: 3, E: list}), first)
			}
		}
	}
}

// P1301: against the words, of multigraphs of few vertices with any ends and costs.
func TestRightByWords(t *testing.T) {
	d := dice(1301)
	seen := map[api.Kind]int{}
	for range 20000 {
		m := api.Graph{N: d.below(5) - 1}
		for range d.below(4) {
			cost := []int64{0, 1, api.MaxCost - 1, 1 - api.MaxCost, api.MaxCost, -api.MaxCost}[d.below(6)]
			m.E = append(m.E, api.Edge{U: d.below(4), V: d.below(5) - d.below(2), W: cost})
		}
		want := rightOf(m)
		seen[want]++
		isKind(t, fmt.Sprint(m), matching.Right(m), want)
	}
	for _, k := range []api.Kind{api.OK, api.BadArg, api.BadVertex, api.Loop, api.BadWeight} {
		if seen[k] == 0 {
			t.Errorf("no multigraph of kind %d", int(k))
		}
	}
}
