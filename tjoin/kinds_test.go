package tjoin_test

import (
	"fmt"
	"math"
	"testing"

	"filigree/api"
	"filigree/tjoin"
)

// apart is two vertices and a row between them that are this far apart, as few edges as can be.
func apart(far int64) api.Graph {
	m := api.Graph{N: 1}
	for ; far > 0; far -= m.E[len(m.E)-1].W {
		m.E = append(m.E, api.Edge{U: m.N - 1, V: m.N, W: min(far, api.MaxW-1)})
		m.N++
	}
	return m
}

// P1401, P1402: each way of not being right has its kind; Check and Join tell it, whatever else they are given.
func TestWrongMultigraphs(t *testing.T) {
	for what, c := range wrongs() {
		for _, list := range [][]int{nil, {}, {0}, {0, 1}, {1, 0}, {1, 1}, {-1}, {math.MinInt, math.MaxInt}} {
			isRefused(t, what, c.m, list, c.want)
			for _, in := range [][]int{nil, {0}, {0, 1}, {1, 0}, {-1}, {math.MaxInt}} {
				isKind(t, what+": Check", tjoin.Check(c.m, list, in), c.want)
			}
		}
	}
}

// P1401, P1402: of what is wrong in two ways the kind that paths.Right names first.
func TestWrongInTwoWays(t *testing.T) {
	many := make([]api.Edge, api.MaxM+1)
	for _, c := range []struct {
		what string
		m    api.Graph
		want api.Kind
	}{
		{"N below 0, too many edges", api.Graph{N: -1, E: many}, api.BadArg},
		{"N beyond, too many edges", api.Graph{N: api.MaxN + 1, E: many}, api.TooLarge},
		{"N beyond, no vertex", multi(api.MaxN+1, [3]int64{-1, 0, 0}), api.TooLarge},
		{"N beyond, weight", multi(api.MaxN+1, [3]int64{0, 0, -1}), api.TooLarge},
		{"too many edges", api.Graph{N: 1, E: many}, api.TooLarge},
		{"too many edges, no vertex", api.Graph{E: many}, api.TooLarge},
		{"no vertex, below 0", multi(2, [3]int64{2, 0, -1}), api.BadVertex},
		{"no vertex, beyond", multi(2, [3]int64{0, -1, api.MaxW}), api.BadVertex},
	} {
		for _, list := range [][]int{nil, {0}, {1, 0}} {
			isRefused(t, c.what, c.m, list, c.want)
			isKind(t, c.what+": Check", tjoin.Check(c.m, list, list), c.want)
			isOdd(t, c.what, c.m, list, nil)
		}
	}
}

// P1401, P1402: of two edges that are wrong the first one's kind, whatever the other's, and wherever they stand.
func TestFirstWrongEdge(t *testing.T) {
	bad := map[api.Kind]api.Edge{
		api.BadVertex:      {U: 0, V: 3, W: 1},
		api.NegativeWeight: {U: 0, V: 1, W: -1},
		api.BadWeight:      {U: 2, V: 2, W: api.MaxW},
	}
	fine := api.Edge{U: 1, V: 0, W: 4}
	for first, a := range bad {
		for _, b := range bad {
			for _, list := range [][]api.Edge{{a, b}, {fine, a, b}, {a, fine, b}, {fine, fine, a, fine, b, fine}} {
				m := api.Graph{N: 3, E: list}
				isRefused(t, fmt.Sprint(list), m, []int{0, 1}, first)
				isKind(t, fmt.Sprint(list), tjoin.Check(m, []int{0, 1}, []int{0}), first)
				isOdd(t, fmt.Sprint(list), m, []int{0}, nil)
			}
		}
	}
}

// P1402: t that does not rise, has a number twice, or one that is no vertex.
func TestJoinOfWrongT(t *testing.T) {
	m := beside(way(4), ring(3))
	for _, list := range [][]int{
		{1, 0}, {0, 0}, {3, 3}, {0, 1, 1, 2}, {0, 2, 1, 3}, {-1}, {-1, 0}, {7}, {0, 7}, {math.MinInt}, {0, math.MaxInt}, {6, 7}, {0, 1, 2, 2},
		{2, 1, 0}, {0, 3, -1},
	} {
		isRefused(t, fmt.Sprint(list), m, list, api.BadArg)
	}
	isRefused(t, "no vertex", api.Graph{}, []int{0}, api.BadArg)
	places(4, -1, 3, func(list []int) {
		switch m := all(3); {
		case !risesOf(list, 3):
			isRefused(t, fmt.Sprint(list), m, list, api.BadArg)
		case len(list)%2 == 1:
			isRefused(t, fmt.Sprint(list), m, list, api.NoMatching)
		default:
			isJoin(t, fmt.Sprint(list), m, list, int64(len(list)/2))
		}
	})
}

// P1402: components with an odd number of t's vertices, beside others with an even one.
func TestJoinOfOddComponents(t *testing.T) {
	m := beside(way(3), api.Graph{N: 1}, ring(4), looped(api.Graph{N: 1}))
	for _, list := range [][]int{{0}, {3}, {8}, {0, 3}, {3, 8}, {0, 4}, {2, 8}, {0, 1, 2}, {0, 1, 2, 4}, {0, 1, 4}, {0, 1, 3}, {0, 2, 4, 5, 6}, {0, 1, 4, 5, 8}, {0, 1, 2, 3, 4, 5, 6, 7, 8}} {
		isRefused(t, fmt.Sprint(list), m, list, api.NoMatching)
	}
	for _, list := range [][]int{{}, {0, 1}, {4, 6}, {0, 2, 4, 5}, {1, 2, 4, 5, 6, 7}} {
		isLeast(t, fmt.Sprint(list), m, list, pairedOf(m, list))
	}
	d := dice(14025)
	seen := map[bool]int{}
	for _, s := range samples(14) {
		part := partsOf(s.m)
		list := d.some(s.m.N, 2+d.below(4))
		count := map[int]int{}
		for _, v := range list {
			count[part[v]]++
		}
		isOddOne := false
		for _, number := range count {
			isOddOne = isOddOne || number%2 == 1
		}
		seen[isOddOne && len(list)%2 == 0]++
		if _, _, k := tjoin.Join(s.m, list); (k == api.NoMatching) != isOddOne || !isOddOne && k != api.OK {
			t.Fatalf("%s: Join(%v, %v): kind %d", s.what, s.m, list, int(k))
		}
	}
	if seen[true] == 0 {
		t.Errorf("no even t with an odd component")
	}
}

// P1402: of what is wrong in two ways the kind that the chapter names first.
func TestOrderOfKinds(t *testing.T) {
	far := apart(api.MaxCost)
	last := far.N - 1
	isRefused(t, "weight, t", multi(3, [3]int64{0, 1, -1}), []int{1, 0}, api.NegativeWeight)
	isRefused(t, "t, odd", way(3), []int{1, 1, 1}, api.BadArg)
	isRefused(t, "t falls, apart", far, []int{last, 0}, api.BadArg)
	isRefused(t, "t falls, odd, apart", far, []int{0, last, 1}, api.BadArg)
	isRefused(t, "apart", far, []int{0, last}, api.TooLarge)
	isRefused(t, "odd, apart", far, []int{0, 1, last}, api.NoMatching)
	isRefused(t, "apart, odd beside it", beside(far, way(2)), []int{0, last, last + 1}, api.NoMatching)
	isRefused(t, "odd, apart beside it", beside(way(2), far), []int{0, 2, last + 2}, api.NoMatching)
	isRefused(t, "two odd, apart", beside(far, api.Graph{N: 1}), []int{0, 1, last, last + 1}, api.NoMatching)
}
