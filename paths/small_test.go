package paths_test

import (
	"slices"
	"testing"

	"filigree/api"
	"filigree/paths"
)

// lists hands out every list of n numbers from low to high.
func lists(n, low, high int, with func(list []int)) {
	list := make([]int, n)
	var choose func(at int)
	choose = func(at int) {
		if at == n {
			with(list)
			return
		}
		for number := low; number <= high; number++ {
			list[at] = number
			choose(at + 1)
		}
	}
	choose(0)
}

// multigraphs hands out every multigraph of n vertices and at most so many edges of these weights, with ends and edges in every
// order.
func multigraphs(n, most int, weights []int64, with func(m api.Graph)) {
	var list []api.Edge
	var choose func()
	choose = func() {
		with(api.Graph{N: n, E: slices.Clone(list)})
		if len(list) == most {
			return
		}
		for u := range n {
			for v := range n {
				for _, w := range weights {
					list = append(list, api.Edge{U: u, V: v, W: w})
					choose()
					list = list[:len(list)-1]
				}
			}
		}
	}
	choose()
}

// P1202: From, from each vertex of all multigraphs of few vertices and edges, against all ways.
func TestFromOfAll(t *testing.T) {
	for _, c := range []struct {
		n, most int
		weights []int64
	}{
		{0, 3, []int64{0}},
		{1, 4, []int64{0, 1}},
		{2, 3, []int64{0, 1, 2, api.MaxW - 1}},
		{3, 3, []int64{0, 1, 2}},
		{4, 3, []int64{0, 1}},
		{3, 4, []int64{1}},
		{5, 3, []int64{1}},
	} {
		multigraphs(c.n, c.most, c.weights, func(m api.Graph) {
			for v := range m.N {
				isFrom(t, "small", m, v, leastOf(m, v))
			}
		})
	}
}

// isChecked fails the test unless Check tells what the words do, and tells it.
func isChecked(t *testing.T, m api.Graph, from int, least, dist []int64, via []int) api.Kind {
	t.Helper()
	want := checkOf(m, from, least, dist, via)
	if k := paths.Check(m, from, dist, via); k != want {
		t.Fatalf("Check(%v, %d, %v, %v): kind %d, not %d", m, from, dist, via, int(k), int(want))
	}
	return want
}

// P1203: all distances and all vias, against the words, on all multigraphs of at most 3 vertices and 2 edges.
func TestCheckOfAll(t *testing.T) {
	counts := map[api.Kind]int{}
	for n := 1; n <= 3; n++ {
		multigraphs(n, 2, []int64{0, 1}, func(m api.Graph) {
			for from := range n {
				least := leastOf(m, from)
				lists(n, -2, 3, func(list []int) {
					dist := make([]int64, n)
					for v, number := range list {
						dist[v] = int64(number)
					}
					lists(n, -1, 2, func(via []int) { counts[isChecked(t, m, from, least, dist, via)]++ })
				})
			}
		})
	}
	if counts[api.OK] == 0 || counts[api.BadWitness] == 0 {
		t.Errorf("right and wrong ones are asked for: %v", counts)
	}
}

// P1203: all vias beside the right distances, and beside such as are wrong at one vertex, on multigraphs of more edges: rings of
// weight 0 among them.
func TestCheckOfAllVias(t *testing.T) {
	ask := func(m api.Graph) {
		for from := range m.N {
			least := leastOf(m, from)
			lists(m.N, -1, len(m.E), func(via []int) {
				isChecked(t, m, from, least, least, via)
				for v := range m.N {
					for _, by := range []int64{-1, 1} {
						dist := slices.Clone(least)
						dist[v] += by
						isChecked(t, m, from, least, dist, via)
					}
				}
			})
		}
	}
	multigraphs(3, 3, []int64{0, 1}, func(m api.Graph) {
		if len(m.E) == 3 && m.E[0].U <= m.E[0].V && m.E[1].U <= m.E[1].V && m.E[2].U <= m.E[2].V {
			ask(m)
		}
	})
	d := dice(1203)
	for range 20 {
		ask(d.any(4, 5, 2))
		ask(d.any(5, 4, 2))
	}
}

// P1203: lists of each length.
func TestCheckOfAllLengths(t *testing.T) {
	for n := 1; n <= 3; n++ {
		multigraphs(n, 2, []int64{0, 1}, func(m api.Graph) {
			dist, via, _ := paths.From(m, 0)
			longDist, longVia := append(slices.Clone(dist), -1, -1), append(slices.Clone(via), -1, -1)
			for a := range len(longDist) + 1 {
				for b := range len(longVia) + 1 {
					isChecked(t, m, 0, dist, longDist[:a], longVia[:b])
				}
			}
		})
	}
}
