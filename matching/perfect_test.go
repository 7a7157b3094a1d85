package matching_test

import (
	"fmt"
	"slices"
	"testing"

	"filigree/api"
	"filigree/matching"
)

// isProved fails the test unless Perfect answers a perfect matching with a proof, by Check and Holds and by the words; and tells
// them.
func isProved(t *testing.T, what string, m api.Graph) ([]int, api.Proof) {
	t.Helper()
	in, p, k := matching.Perfect(m)
	if k != api.OK {
		t.Fatalf("%s: Perfect(%v): kind %d", what, m, int(k))
	}
	if k := matching.Check(m, in); k != api.OK {
		t.Fatalf("%s: Check(%v, %v): kind %d", what, m, in, int(k))
	}
	if k := matching.Holds(m, in, p); k != api.OK {
		t.Fatalf("%s: Holds(%v, %v, %v): kind %d", what, m, in, p, int(k))
	}
	if k := holdsOf(m, in, p); k != api.OK {
		t.Fatalf("%s: %v, %v, %v: kind %d by the words", what, m, in, p, int(k))
	}
	return in, p
}

// isLeast fails the test unless Perfect answers what is the cheapest of all, or that there is none.
func isLeast(t *testing.T, what string, m api.Graph) {
	t.Helper()
	want, there := leastOf(m)
	if !there {
		in, p, k := matching.Perfect(m)
		if k != api.NoMatching || len(in) != 0 || len(p.Y) != 0 || len(p.B) != 0 {
			t.Fatalf("%s: Perfect(%v): %v, %v, kind %d, though there is none", what, m, in, p, int(k))
		}
		return
	}
	in, _ := isProved(t, what, m)
	if got := matching.Cost(m, in); got != want {
		t.Fatalf("%s: Perfect(%v): %v costs %d, not %d", what, m, in, got, want)
	}
}

// P1304: told by hand; the chapter's example, and the edges that the document names.
func TestPerfectTold(t *testing.T) {
	const most = api.MaxCost - 1
	for _, c := range []struct {
		what string
		m    api.Graph
		want []int
	}{
		{"no vertex", api.Graph{}, []int{}},
		{"no vertex, an empty list", api.Graph{E: []api.Edge{}}, []int{}},
		{"the example", multi(4, [3]int64{0, 1, 1}, [3]int64{1, 2, 5}, [3]int64{2, 3, 1}, [3]int64{3, 0, 5}), []int{0, 2}},
		{"the example, turned", multi(4, [3]int64{1, 2, 5}, [3]int64{3, 2, 1}, [3]int64{0, 3, 5}, [3]int64{1, 0, 1}), []int{1, 3}},
		{"an edge", multi(2, [3]int64{1, 0, 9}), []int{0}},
		{"an edge of the greatest cost", multi(2, [3]int64{0, 1, most}), []int{0}},
		{"an edge of the least cost", multi(2, [3]int64{0, 1, -most}), []int{0}},
		{"several, the first", multi(2, [3]int64{0, 1, -3}, [3]int64{1, 0, 9}, [3]int64{0, 1, 8}), []int{0}},
		{"several, the second", multi(2, [3]int64{0, 1, 3}, [3]int64{1, 0, -9}, [3]int64{0, 1, 0}), []int{1}},
		{"several, the last", multi(2, [3]int64{0, 1, most}, [3]int64{1, 0, 0}, [3]int64{0, 1, -most}), []int{2}},
		{"a way", priced(way(4), func(place int) int64 { return []int64{100, -100, 100}[place] }), []int{0, 2}},
		{"a dear bridge between odd rings", multi(6, [3]int64{0, 1, 1}, [3]int64{1, 2, 1}, [3]int64{2, 0, 1}, [3]int64{3, 4, 1},
			[3]int64{4, 5, 1}, [3]int64{5, 3, 1}, [3]int64{2, 5, most}), []int{0, 3, 6}},
	} {
		in, _ := isProved(t, c.what, c.m)
		if !slices.Equal(in, c.want) {
			t.Errorf("%s: %v, not %v", c.what, in, c.want)
		}
	}
	in, p, _ := matching.Perfect(api.Graph{})
	if len(in) != 0 || len(p.Y) != 0 || len(p.B) != 0 {
		t.Errorf("no vertex: %v, %v", in, p)
	}
}

// P1304: where there is no perfect matching.
func TestNoMatching(t *testing.T) {
	for what, m := range map[string]api.Graph{
		"a vertex alone":                {N: 1},
		"two vertices, no edge":         {N: 2},
		"four vertices, no edge":        {N: 4, E: []api.Edge{}},
		"a way of 3":                    way(3),
		"a ring of 3":                   ring(3),
		"a ring of 5":                   ring(5),
		"a star of 4":                   star(4),
		"a star of 4, thrice":           thrice(star(4)),
		"two odd ones":                  beside(all(3), all(3)),
		"two odd ones of different":     beside(all(5), all(7)),
		"one alone":                     beside(all(4), api.Graph{N: 2}),
		"three odd ones at one":         joined(beside(api.Graph{N: 1}, all(3), all(3), all(3)), multi(10, [3]int64{0, 1}, [3]int64{0, 4}, [3]int64{0, 7})),
		"a chessboard without corners":  cornered(),
		"rings in rings, two apart":     beside(band(7, 2), band(9, 3)),
		"more on one side than other's": sides(3, 5),
	} {
		isRefused(t, what, m, api.NoMatching)
		for _, by := range new(dice).costs(m) {
			if by.what == "1" || by.what == "-1" || by.what == "rising" || by.what == "falling" || by.what == "squares" {
				isRefused(t, what+", costs "+by.what, priced(m, by.cost), api.NoMatching)
			}
		}
	}
}

// cornered is a grid of 4 by 4 without two corners of one colour.
func cornered() api.Graph {
	g := grid(4, 4)
	m := api.Graph{N: 14}
	for _, e := range g.E {
		if min(e.U, e.V) > 0 && max(e.U, e.V) < 15 {
			m.E = append(m.E, api.Edge{U: e.U - 1, V: e.V - 1})
		}
	}
	return m
}

// sides is a vertices, each joined to each of b others.
func sides(a, b int) api.Graph {
	m := api.Graph{N: a + b}
	for u := range a {
		for v := range b {
			m.E = append(m.E, api.Edge{U: u, V: a + v})
		}
	}
	return m
}

// multigraphs hands out every multigraph of n vertices and at most so many edges of these costs, with edges in every order.
func multigraphs(n, most int, costs []int64, with func(m api.Graph)) {
	var list []api.Edge
	var choose func()
	choose = func() {
		with(api.Graph{N: n, E: slices.Clone(list)})
		if len(list) == most {
			return
		}
		for u := range n {
			for v := range n {
				if u < v == (len(list)%2 == 0) && u != v {
					for _, w := range costs {
						list = append(list, api.Edge{U: u, V: v, W: w})
						choose()
						list = list[:len(list)-1]
					}
				}
			}
		}
	}
	choose()
}

// P1304, P1305: all multigraphs of few vertices and edges, against all their perfect matchings.
func TestPerfectOfAll(t *testing.T) {
	for _, c := range []struct {
		n, most int
		costs   []int64
	}{
		{0, 2, []int64{0}},
		{1, 2, []int64{0}},
		{2, 4, []int64{-1, 0, 1, api.MaxCost - 1, 1 - api.MaxCost}},
		{3, 3, []int64{-1, 0, 1}},
		{4, 4, []int64{-1, 2}},
		{4, 5, []int64{0}},
		{5, 3, []int64{1}},
		{6, 4, []int64{1}},
	} {
		multigraphs(c.n, c.most, c.costs, func(m api.Graph) { isCheapest(t, "small", m) })
	}
}

// isCheapest fails the test unless Perfect's matching is one of all perfect matchings, and none of them is cheaper.
func isCheapest(t *testing.T, what string, m api.Graph) {
	t.Helper()
	in, p, k := matching.Perfect(m)
	found, any := false, false
	cost := matching.Cost(m, in)
	matchings(m, func(other []int) {
		any = true
		found = found || slices.Equal(in, other)
		if c := matching.Cost(m, other); c < cost {
			t.Fatalf("%s: Perfect(%v): %v costs %d, %v costs %d", what, m, in, cost, other, c)
		}
	})
	if !any {
		if k != api.NoMatching || len(in) != 0 || len(p.Y) != 0 || len(p.B) != 0 {
			t.Fatalf("%s: Perfect(%v): %v, %v, kind %d, though there is none", what, m, in, p, int(k))
		}
		return
	}
	if !found || k != api.OK {
		t.Fatalf("%s: Perfect(%v): %v, kind %d: none of its perfect matchings", what, m, in, int(k))
	}
	if k := matching.Holds(m, in, p); k != api.OK {
		t.Fatalf("%s: Holds(%v, %v, %v): kind %d", what, m, in, p, int(k))
	}
}

// P1304, P1305: drawn multigraphs of few vertices, against all their perfect matchings.
func TestPerfectOfDrawn(t *testing.T) {
	d := dice(1304)
	for range 20000 {
		n := 2 * (1 + d.below(4))
		m := d.any(n, d.below(2*n+4))
		if d.below(2) > 0 {
			m = d.paired(n, d.below(2*n))
		}
		spread := 1 + d.below(12)
		isCheapest(t, "drawn", priced(m, func(int) int64 { return int64(d.below(spread) - spread/2) }))
	}
}

// P1304: multigraphs of many kinds, with costs of many kinds, against the least cost of all.
func TestPerfectOfSamples(t *testing.T) {
	for _, s := range samples(14) {
		isLeast(t, s.what, s.m)
	}
}

// P1304: rings in rings, of many kinds and costs, against the least cost of all.
func TestPerfectOfNests(t *testing.T) {
	d := dice(1305)
	nested := 0
	for i := range 30000 {
		m := d.nest(1 + d.below(6))
		if i%3 > 0 {
			m = joined(m, d.any(m.N, d.below(m.N)))
		}
		spread := 1 + d.below(20)
		m = priced(m, func(int) int64 { return int64(d.below(spread)) })
		isLeast(t, "nest", m)
		if _, p, _ := matching.Perfect(m); depth(p) > 1 {
			nested++
		}
	}
	if nested < 300 {
		t.Errorf("%d proofs with a blossom in a blossom are too few", nested)
	}
}

// depth is how many sets of a proof lie in one another.
func depth(p api.Proof) int {
	most := 0
	for _, b := range p.B {
		count := 0
		for _, other := range p.B {
			isIn := func(v int) bool { return slices.Contains(other.In, v) }
			if !slices.ContainsFunc(b.In, func(v int) bool { return !isIn(v) }) {
				count++
			}
		}
		most = max(most, count)
	}
	return most
}

// P1304: greater multigraphs, up to some dozens of vertices, held by Holds and by the words.
func TestPerfectOfGreater(t *testing.T) {
	d := dice(1306)
	deepest := 0
	for n := 16; n <= 72; n += 8 {
		for _, s := range []sample{
			{"ring", ring(n)},
			{"grid", grid(4, n/4)},
			{"all", all(n)},
			{"band of 2", band(n, 2)},
			{"band of 3", band(n, 3)},
			{"paired", d.paired(n, n)},
			{"paired, many", d.paired(n, 5*n)},
			{"nest, paired", joined(d.nest(n/2-1), d.paired(n, n/4))},
			{"several", beside(all(n/2), band(n/4, 2), d.paired(n/4, n/4))},
			{"side by side", thrice(band(n, 2))},
		} {
			for _, by := range d.costs(s.m) {
				_, p := isProved(t, fmt.Sprint(s.what, " of ", n, ", costs ", by.what), priced(s.m, by.cost))
				deepest = max(deepest, depth(p))
			}
		}
	}
	if deepest < 20 {
		t.Errorf("at most %d blossoms lie in one another", deepest)
	}
}

// P1304: a planted matching is cheaper than all else.
func TestPlanted(t *testing.T) {
	d := dice(1307)
	for n := 2; n <= 60; n += 2 {
		m := d.any(n, 4*n)
		m = priced(m, func(int) int64 { return 1 + int64(d.below(5)) })
		order := d.order(n)
		var want []int
		for i := 1; i < n; i += 2 {
			want = append(want, len(m.E))
			m.E = append(m.E, api.Edge{U: order[i-1], V: order[i], W: -int64(d.below(3))})
		}
		other, place := d.named(m)
		for i := range want {
			want[i] = place[want[i]]
		}
		slices.Sort(want)
		if in, _ := isProved(t, "planted", other); !slices.Equal(in, want) {
			t.Errorf("planted: %v, not %v", in, want)
		}
	}
}
