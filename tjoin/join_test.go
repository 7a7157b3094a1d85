package tjoin_test

import (
	"fmt"
	"slices"
	"testing"

	"filigree/api"
	"filigree/tjoin"
)

// isJoin fails the test unless Join answers edges of which Check says OK, that cost what it says, and no more than this.
func isJoin(t *testing.T, what string, m api.Graph, list []int, least int64) []int {
	t.Helper()
	in, cost, k := tjoin.Join(m, list)
	if k != api.OK || cost != least || sumOf(m, in) != least {
		t.Fatalf("%s: Join(%v, %v): %v of %d, %d, not %d, kind %d", what, m, list, in, sumOf(m, in), cost, least, int(k))
	}
	if k := tjoin.Check(m, list, in); k != api.OK || checkOf(m, list, in) != api.OK {
		t.Fatalf("%s: Join(%v, %v): %v: Check says kind %d", what, m, list, in, int(k))
	}
	return in
}

// isRefused fails the test unless Join answers this kind and nothing else.
func isRefused(t *testing.T, what string, m api.Graph, list []int, want api.Kind) {
	t.Helper()
	in, cost, k := tjoin.Join(m, list)
	if k != want || len(in) != 0 || cost != 0 {
		t.Fatalf("%s: Join: %d places of %d, kind %d, not %d", what, len(in), cost, int(k), int(want))
	}
}

// isLeast fails the test unless Join answers edges of this cost, or NoMatching, if it is below 0.
func isLeast(t *testing.T, what string, m api.Graph, list []int, least int64) {
	t.Helper()
	if least < 0 {
		isRefused(t, what, m, list, api.NoMatching)
		return
	}
	isJoin(t, what, m, list, least)
}

// The chapter's example: a way of 0, 1, 2 of weights 2, 3; t = 0, 2: both edges, 5.
func TestExample(t *testing.T) {
	in, cost, k := tjoin.Join(multi(3, [3]int64{0, 1, 2}, [3]int64{1, 2, 3}), []int{0, 2})
	if got := fmt.Sprint(in, cost, int(k)); got != "[0 1] 5 0" {
		t.Errorf("Join: %s", got)
	}
}

// P1402: joins told by hand, where there is just one cheapest.
func TestJoinTold(t *testing.T) {
	const most = api.MaxW - 1
	square := multi(4, [3]int64{0, 1, 1}, [3]int64{1, 2, 5}, [3]int64{2, 3, 1}, [3]int64{3, 0, 5})
	for _, c := range []struct {
		what string
		m    api.Graph
		t    []int
		want string
	}{
		{"no vertex", api.Graph{}, nil, "[] 0"},
		{"no edge", api.Graph{N: 4}, nil, "[] 0"},
		{"edges, but no t", square, []int{}, "[] 0"},
		{"an edge", multi(2, [3]int64{1, 0, 7}), []int{0, 1}, "[0] 7"},
		{"side by side, the first is cheaper", multi(2, [3]int64{0, 1, 3}, [3]int64{1, 0, 4}), []int{0, 1}, "[0] 3"},
		{"side by side, the last is cheaper", multi(2, [3]int64{0, 1, 4}, [3]int64{1, 0, 3}), []int{0, 1}, "[1] 3"},
		{"a loop is of no use", multi(2, [3]int64{0, 0, 1}, [3]int64{0, 1, 4}, [3]int64{1, 1, 1}), []int{0, 1}, "[1] 4"},
		{"a square's four", square, []int{0, 1, 2, 3}, "[0 2] 2"},
		{"a square's two", square, []int{1, 2}, "[1] 5"},
		{"a square's two across", multi(4, [3]int64{0, 1, 1}, [3]int64{1, 2, 2}, [3]int64{2, 3, 2}, [3]int64{3, 0, 2}), []int{0, 2}, "[0 1] 3"},
		{"round the other way", multi(3, [3]int64{0, 1, 9}, [3]int64{0, 2, 4}, [3]int64{2, 1, 4}), []int{0, 1}, "[1 2] 8"},
		{"a way's ends and its middle", way(4), []int{0, 1, 2, 3}, "[0 2] 2"},
		{"two ways that share an edge", way(4), []int{0, 3}, "[0 1 2] 3"},
		{"a star's points", star(5), []int{1, 2, 3, 4}, "[0 1 2 3] 4"},
		{"a star's points and middle", star(5), []int{0, 1, 3, 4}, "[0 2 3] 3"},
		{"two components", beside(way(3), way(2)), []int{0, 2, 3, 4}, "[0 1 2] 3"},
		{"two components, the second one's", beside(way(3), way(2)), []int{3, 4}, "[2] 1"},
		{"components that lie in each other", multi(4, [3]int64{0, 2, 1}, [3]int64{3, 1, 2}), []int{0, 1, 2, 3}, "[0 1] 3"},
		{"great weights", multi(3, [3]int64{0, 1, most}, [3]int64{1, 2, most}, [3]int64{0, 2, most}), []int{0, 2}, "[2] 2147483647"},
		{"great weights, both", multi(3, [3]int64{0, 1, most}, [3]int64{1, 2, most}), []int{0, 2}, "[0 1] 4294967294"},
		{"great, and 0", multi(4, [3]int64{0, 3, most}, [3]int64{0, 1, 0}, [3]int64{1, 2, most - 1}, [3]int64{2, 3, 0}), []int{0, 3}, "[1 2 3] 2147483646"},
	} {
		in, cost, k := tjoin.Join(c.m, c.t)
		if got := fmt.Sprint(in, " ", cost); got != c.want || k != api.OK {
			t.Errorf("%s: %s, not %s, kind %d", c.what, got, c.want, int(k))
		}
	}
}

// P1402: every t of every multigraph of few vertices and edges, against all sets of edges.
func TestJoinOfAll(t *testing.T) {
	for _, c := range []struct {
		n, most int
		weights []int64
	}{
		{0, 3, []int64{0}},
		{1, 3, []int64{0, 1}},
		{2, 3, []int64{0, 1, 2, api.MaxW - 1}},
		{3, 3, []int64{0, 1, 2}},
		{4, 3, []int64{1}},
	} {
		multigraphs(c.n, c.most, c.weights, func(m api.Graph) {
			for mask, least := range leastOf(m) {
				isLeast(t, "small", m, listOf(mask), least)
			}
		})
	}
}

// P1402: every t of many drawn multigraphs, against all sets of edges.
func TestJoinOfDrawn(t *testing.T) {
	d := dice(14020)
	for range 1000 {
		n := 1 + d.below(6)
		m := d.any(n, d.below(11), []int64{1, 2, 3, 10, api.MaxW}[d.below(5)])
		for mask, least := range leastOf(m) {
			isLeast(t, "drawn", m, listOf(mask), least)
		}
	}
	for range 20 {
		m := d.any(8, 12, 10)
		for mask, least := range leastOf(m) {
			isLeast(t, "drawn, greater", m, listOf(mask), least)
		}
	}
}

// P1402: some t of shapes of many kinds with weights of many kinds, against all pairs.
func TestJoinOfMany(t *testing.T) {
	d := dice(14021)
	counts := map[int]int{}
	for _, s := range samples(14) {
		for _, chance := range []int{2, 4, max(1, s.m.N/4)} {
			list := d.some(s.m.N, chance)
			if len(list) > 12 {
				list = list[:12]
			}
			isLeast(t, s.what, s.m, list, pairedOf(s.m, list))
			list = evened(s.m, list)
			isLeast(t, s.what+", evened", s.m, list, pairedOf(s.m, list))
			counts[len(list)]++
		}
	}
	for _, length := range []int{0, 2, 4, 6, 8, 10, 12} {
		if counts[length] == 0 {
			t.Errorf("no t of %d vertices", length)
		}
	}
}

// P1402: all vertices of shapes whose joins are known.
func TestJoinOfAllVertices(t *testing.T) {
	everyone := func(m api.Graph) []int { return listOf(1<<m.N - 1) }
	for n := 2; n < 40; n += 2 {
		isJoin(t, "way", way(n), everyone(way(n)), int64(n/2))
		isJoin(t, "ring", ring(n), everyone(ring(n)), int64(n/2))
		isJoin(t, "star", star(n), everyone(star(n)), int64(n-1))
		isJoin(t, "grid", grid(2, n/2), everyone(grid(2, n/2)), int64(n/2))
		isJoin(t, "all", all(n), everyone(all(n)), int64(n/2))
		isRefused(t, "odd way", way(n+1), everyone(way(n+1)), api.NoMatching)
		isRefused(t, "odd all", all(n+1), everyone(all(n+1)), api.NoMatching)
	}
	// On a way each second edge is taken, whatever it costs.
	n := 30
	m := weighed(way(n), func(place int) int64 { return int64(2*place + 1) })
	want := int64(0)
	for place := 0; place < n-1; place += 2 {
		want += int64(2*place + 1)
	}
	isJoin(t, "steps", m, everyone(m), want)
}

// P1402: edges of weight 0 alone, and among others: what they join costs nothing, and no place is there twice.
func TestJoinOfZeros(t *testing.T) {
	d := dice(14022)
	for _, s := range d.shapes(14) {
		m := weighed(s.m, func(int) int64 { return 0 })
		for range 4 {
			list := evened(m, d.some(m.N, 2))
			isJoin(t, s.what, m, list, 0)
		}
	}
	m := multi(6, [3]int64{0, 1, 0}, [3]int64{1, 2, 0}, [3]int64{2, 0, 0}, [3]int64{2, 3, 4}, [3]int64{3, 4, 0}, [3]int64{4, 5, 0}, [3]int64{5, 3, 0})
	for mask, least := range leastOf(m) {
		isLeast(t, "two rings of 0", m, listOf(mask), least)
	}
}

// P1402: on a tree there is one join alone: the edges with an odd number of t's vertices beyond them.
func TestJoinOfTrees(t *testing.T) {
	d := dice(14023)
	for range 100 {
		n := 2 + d.below(40)
		m := weighed(d.tree(n), func(int) int64 { return int64(d.below(api.MaxW)) })
		list := evened(m, d.some(n, 1+d.below(5)))
		odd := make([]bool, n)
		for _, v := range list {
			odd[v] = true
		}
		var want []int
		for place := len(m.E) - 1; place >= 0; place-- { // all that is beyond an edge has been seen ahead of it
			if e := m.E[place]; odd[e.U] {
				odd[e.V] = !odd[e.V]
				want = append(want, place)
			}
		}
		slices.Reverse(want)
		if in := isJoin(t, "tree", m, list, sumOf(m, want)); !slices.Equal(in, want) {
			t.Fatalf("tree: Join(%v, %v): %v, not %v", m, list, in, want)
		}
	}
}

// P1402: greater multigraphs with t of many vertices, against all joins of the same vertices: turned along closed ways.
func TestJoinAgainstAllOthers(t *testing.T) {
	d := dice(14024)
	for _, s := range []sample{
		{"grid", grid(4, 5)},
		{"grid, greater", grid(5, 5)},
		{"rows", grid(2, 14)},
		{"ring, twice", twice(ring(10))},
		{"rings", beside(ring(9), ring(12), ring(2), grid(3, 4))},
		{"tree, and some", joined(d.tree(40), d.any(40, 10, 2))},
		{"ring, and some", joined(ring(30), d.any(30, 10, 2))},
		{"all", all(6)},
	} {
		rounds := roundsOf(s.m)
		for _, by := range d.weights(s.m) {
			m := weighed(s.m, by.weight)
			list := evened(m, d.some(m.N, 1+d.below(3)))
			in, cost, k := tjoin.Join(m, list)
			if k != api.OK || cost != sumOf(m, in) || tjoin.Check(m, list, in) != api.OK {
				t.Fatalf("%s: Join(%v, %v): %v, %d, kind %d", s.what, m, list, in, cost, int(k))
			}
			if least := leastTurned(m, in, rounds); least < cost {
				t.Fatalf("%s: Join(%v, %v): %v, %d, but another one of %d", s.what, m, list, in, cost, least)
			}
		}
	}
}

// joined is a multigraph with the edges of two that have the same vertices.
func joined(a, b api.Graph) api.Graph { return api.Graph{N: a.N, E: slices.Concat(a.E, b.E)} }

// leastTurned is the least sum of weights of some edges, turned along all sets of these closed ways.
func leastTurned(m api.Graph, in []int, rounds [][]int) int64 {
	taken := make([]bool, len(m.E))
	sum := int64(0)
	turn := func(list []int) {
		for _, place := range list {
			taken[place] = !taken[place]
			if taken[place] {
				sum += m.E[place].W
			} else {
				sum -= m.E[place].W
			}
		}
	}
	turn(in)
	least := sum
	for number := 1; number < 1<<len(rounds); number++ {
		last := 0 // of the sets, one after the other, the closed way by which they differ
		for number>>last&1 == 0 {
			last++
		}
		turn(rounds[last])
		least = min(least, sum)
	}
	return least
}
