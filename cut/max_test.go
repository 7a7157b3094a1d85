package cut_test

import (
	"fmt"
	"slices"
	"testing"

	"filigree/api"
	"filigree/cut"
	"filigree/planar"
	"filigree/rotation"
)

// smalls hands out every graph of n vertices; weights are 1, 2 and so on.
func smalls(n int, with func(g api.Graph)) {
	whole := all(n, 1)
	for set := range 1 << len(whole.E) {
		g := api.Graph{N: n}
		for place, e := range whole.E {
			if set>>place&1 == 1 {
				g.E = append(g.E, api.Edge{U: e.U, V: e.V, W: int64(len(g.E) + 1)})
			}
		}
		with(g)
	}
}

// orders is every order of a list in which the first fixed ones stay.
func orders(list []int, fixed int) [][]int {
	if fixed >= len(list) {
		return [][]int{slices.Clone(list)}
	}
	var lists [][]int
	for i := fixed; i < len(list); i++ {
		swapped := slices.Clone(list)
		swapped[fixed], swapped[i] = swapped[i], swapped[fixed]
		lists = append(lists, orders(swapped, fixed+1)...)
	}
	return lists
}

// systems hands out every system of a graph, in the plane or not, as every list of neighbours.
func systems(g api.Graph, with func(r [][]int)) {
	near := rising(g)
	r := make([][]int, g.N)
	var choose func(v int)
	choose = func(v int) {
		if v == g.N {
			with(r)
			return
		}
		for _, list := range orders(near[v], 0) {
			r[v] = list
			choose(v + 1)
		}
	}
	choose(0)
}

// P1502: cuts told by hand, where there is just one heaviest.
func TestMaxTold(t *testing.T) {
	const most = api.MaxW - 1
	triangle := func(a, b, c int64) api.Graph {
		return edges(3, [3]int64{0, 1, a}, [3]int64{0, 2, b}, [3]int64{1, 2, c})
	}
	for _, c := range []struct {
		what string
		g    api.Graph
		want string
	}{
		{"no vertex", api.Graph{}, "[] 0"},
		{"a vertex alone", api.Graph{N: 1}, "[false] 0"},
		{"no edge", api.Graph{N: 3}, "[false false false] 0"},
		{"an edge", edges(2, [3]int64{0, 1, 4}), "[false true] 4"},
		{"an edge among others", edges(4, [3]int64{1, 3, 4}), "[false false false true] 4"},
		{"a way", of(way(4)), "[false true false true] 6"},
		{"a star", of(star(4)), "[false true true true] 6"},
		{"a triangle, the first is the least", triangle(1, 2, 3), "[false false true] 5"},
		{"a triangle, the second is the least", triangle(3, 1, 2), "[false true false] 5"},
		{"a triangle, the third is the least", triangle(2, 3, 1), "[false true true] 5"},
		{"a triangle with a 0", triangle(5, 0, 9), "[false true false] 14"},
		{"great weights", triangle(most, most-1, most), "[false true false] 4294967294"},
		{"an even ring", of(ring(4)), "[false true false true] 10"},
		{"a ring of five", weighed(of(ring(5)), func(place int) int64 { return int64(5 - place) }), "[false true false true true] 14"},
		{"two triangles with a vertex in common", of(fan(2)), "[false false true false true] 17"},
		{"two components", of(beside(ring(3), way(2))), "[false false true false true] 9"},
		{"components that lie in each other", edges(5, [3]int64{0, 2, 3}, [3]int64{0, 4, 1}, [3]int64{1, 3, 2}, [3]int64{2, 4, 3}), "[false false true true false] 8"},
	} {
		side, w, k := cut.Max(c.g, told(c.g))
		if got := fmt.Sprint(side, " ", w); got != c.want || k != api.OK {
			t.Errorf("%s: %s, not %s, kind %d", c.what, got, c.want, int(k))
		}
	}
}

// P1502: all lists of all graphs of at most 4 vertices, against all sides, or refused.
func TestMaxOfAllSystems(t *testing.T) {
	d := dice(1510)
	counts := map[api.Kind]int{}
	for n := range 5 {
		smalls(n, func(g api.Graph) {
			for _, by := range d.weights() {
				g := weighed(g, by.weight)
				want := heaviestOf(g)
				systems(g, func(r [][]int) {
					k := rotation.Plane(g, r)
					counts[k]++
					if k == api.OK {
						isMax(t, "small", g, r, want)
					} else {
						isRefused(t, "small", g, r, k)
					}
				})
			}
		})
	}
	if counts[api.OK] == 0 || counts[api.BadRotation] == 0 {
		t.Errorf("systems in the plane and such as are not are asked for: %v", counts)
	}
}

// P1502: all planar graphs of 5 vertices, and some of 6, against all sides; the same weight in each of some systems.
func TestMaxOfAllPlanar(t *testing.T) {
	d := dice(1511)
	for n := 5; n <= 6; n++ {
		smalls(n, func(g api.Graph) {
			a, _ := planar.Decide(g)
			if !a.Planar || n == 6 && d.below(3) > 0 {
				return
			}
			list := d.weights()
			g = weighed(g, list[d.below(len(list))].weight)
			want := heaviestOf(g)
			isMax(t, "planar", g, a.R, want)
			isMax(t, "planar, mirror", g, rotation.Mirror(a.R), want)
		})
	}
}

// P1502: several systems of one graph: each of its systems in the plane gives a cut of the same weight.
func TestMaxOfSeveralSystems(t *testing.T) {
	d := dice(1512)
	for _, c := range []struct {
		what  string
		lists [][]int // of its neighbours, in whatever order
	}{
		{"star", star(6)},
		{"two triangles with a vertex in common", fan(2)},
		{"three triangles with a vertex in common", fan(3)},
		{"a square and a vertex hung on", bridged(ring(4), way(1))},
		{"a bridge", bridged(ring(3), ring(3))},
		{"two poles", between(2, 3)},
		{"two poles and a bar between them", [][]int{{1, 2, 3, 4}, {0, 2, 3, 4}, {0, 1}, {0, 1}, {0, 1}}},
		{"two components", beside(star(4), ring(3), star(4))},
	} {
		var list []api.Graph
		var want []int64
		for _, by := range d.weights() {
			g := weighed(of(c.lists), by.weight)
			list = append(list, g)
			want = append(want, heaviestOf(g))
		}
		count := 0
		systems(list[0], func(r [][]int) {
			if rotation.Plane(list[0], r) == api.OK {
				i := count % len(list)
				isMax(t, c.what, list[i], r, want[i])
				count++
			}
		})
		if count < 4 {
			t.Fatalf("%s: %d systems", c.what, count)
		}
	}
}

// P1502: many drawn graphs in the plane, against all sides.
func TestMaxOfDrawn(t *testing.T) {
	d := dice(1513)
	for range 3000 {
		r := d.thinner([]int{40, 60, 80, 90, 100}[d.below(5)], d.triangles(3+d.below(8)))
		if d.below(2) == 1 {
			r = d.named(r)
		}
		list := d.weights()
		g := weighed(of(r), list[d.below(len(list))].weight)
		isMax(t, "drawn", g, r, heaviestOf(g))
	}
}

// P1502: systems of many kinds with weights of many kinds, against all sides.
func TestMaxOfMany(t *testing.T) {
	count := 0
	for _, s := range samples(13) {
		if s.g.N <= 14 {
			isMax(t, s.what, s.g, s.r, heaviestOf(s.g))
			count++
		}
	}
	if count < 500 {
		t.Errorf("%d of them", count)
	}
}

// P1502: greater graphs, whose vertices are joined to near ones alone, against all sides, by a front that goes over them.
func TestMaxOfGreater(t *testing.T) {
	d := dice(1514)
	for _, c := range []sample{
		{"braced grid", api.Graph{}, d.braced(5, 5, 100)},
		{"braced grid, longer", api.Graph{}, d.braced(14, 4, 100)},
		{"some braces", api.Graph{}, d.braced(8, 6, 50)},
		{"few braces", api.Graph{}, d.braced(20, 5, 15)},
		{"thin", api.Graph{}, d.thinner(70, d.braced(12, 6, 70))},
		{"nest", api.Graph{}, nest(12, 3)},
		{"nest of fives", api.Graph{}, nest(9, 5)},
		{"wheel", api.Graph{}, wheel(40)},
		{"odd wheel", api.Graph{}, wheel(41)},
		{"ring", api.Graph{}, ring(61)},
		{"fan", api.Graph{}, fan(40)},
		{"glued", api.Graph{}, glued(d.braced(6, 4, 60), nest(5, 3))},
		{"bridged", api.Graph{}, bridged(d.braced(6, 4, 60), wheel(18))},
		{"several", api.Graph{}, beside(d.braced(6, 4, 60), alone(2), wheel(18), fan(9), way(9), ring(15))},
	} {
		for _, by := range d.weights() {
			g := weighed(of(c.r), by.weight)
			isMax(t, c.what+", weights "+by.what, g, c.r, frontOf(g))
		}
	}
}

// P1502: greater graphs, against sides that are turned at some vertices, and at more as long as they get heavier.
func TestMaxAgainstOthers(t *testing.T) {
	d := dice(1515)
	for _, s := range samples(40) {
		if s.g.N < 20 {
			continue
		}
		side, w, k := cut.Max(s.g, s.r)
		if k != api.OK {
			t.Fatalf("%s: Max(%v, %v): kind %d", s.what, s.g, s.r, int(k))
		}
		isMax(t, s.what, s.g, s.r, w)
		for range 3 {
			other := slices.Clone(side)
			for range 1 + d.below(4) {
				v := d.below(s.g.N)
				other[v] = !other[v]
			}
			isNoHeavier(t, s, climbed(s.g, other), w)
		}
		isNoHeavier(t, s, climbed(s.g, d.truths(s.g.N)), w)
	}
}

// isNoHeavier fails the test, if sides are heavier than this.
func isNoHeavier(t *testing.T, s sample, side []bool, w int64) {
	t.Helper()
	if other := weightOf(s.g, side); other > w {
		t.Fatalf("%s: Max(%v, %v): %d, but %v of %d", s.what, s.g, s.r, w, side, other)
	}
}

// climbed is sides of which vertices, and pairs of them that are joined, are turned as long as that makes them heavier.
func climbed(g api.Graph, side []bool) []bool {
	best := weightOf(g, side)
	for again := true; again; {
		again = false
		for _, e := range g.E {
			for _, list := range [][]int{{e.U}, {e.V}, {e.U, e.V}} {
				other := slices.Clone(side)
				for _, v := range list {
					other[v] = !other[v]
				}
				if sum := weightOf(g, other); sum > best {
					side, best, again = other, sum, true
				}
			}
		}
	}
	return side
}

// P1502: bridges, whose two sides are one face, are always across, whatever they weigh.
func TestMaxOfBridges(t *testing.T) {
	d := dice(1516)
	for range 200 {
		r := d.tree(2 + d.below(40))
		g := weighed(of(r), func(int) int64 { return int64(d.below(api.MaxW)) })
		side := isMax(t, "tree", g, r, totalOf(g))
		if across := acrossOf(g, side); len(across) != len(g.E) {
			t.Fatalf("tree: Max(%v, %v): %v across", g, r, across)
		}
	}
	for n := 3; n < 9; n++ {
		r := bridged(bridged(ring(n), d.tree(n)), bridged(wheel(n+1), way(2)))
		g := weighed(of(r), func(place int) int64 { return int64(1 + place%4) })
		side := isMax(t, "bridges", g, r, frontOf(g))
		at := slices.IndexFunc(g.E, func(e api.Edge) bool { return e.U == 0 && e.V == n })
		if !slices.Contains(acrossOf(g, side), at) {
			t.Errorf("bridges: the bridge %v is not across: %v", g.E[at], side)
		}
	}
}

// P1502: what is known of whole kinds of graphs, all of whose edges weigh the same.
func TestMaxOfKnown(t *testing.T) {
	const most = api.MaxW - 1
	same := func(r [][]int, weight int64) api.Graph { return weighed(of(r), func(int) int64 { return weight }) }
	d := dice(1517)
	for _, weight := range []int64{0, 1, 7, most} {
		for n := 3; n < 40; n++ {
			isMax(t, "ring", same(ring(n), weight), ring(n), int64(n/2*2)*weight)
			isMax(t, "wheel", same(wheel(n+1), weight), wheel(n+1), int64(n+n/2)*weight)
			isMax(t, "fan", same(fan(n), weight), fan(n), int64(2*n)*weight)
			isMax(t, "grid", same(grid(n, 4), weight), grid(n, 4), int64(7*n-4)*weight)
			tree := d.tree(n)
			isMax(t, "tree", same(tree, weight), tree, int64(n-1)*weight)
			isMax(t, "nest of fours", same(nest(n, 4), weight), nest(n, 4), int64(8*n-4)*weight)
			isMax(t, "nest of threes", same(nest(n, 3), weight), nest(n, 3), int64(5*n-3)*weight)
		}
		isMax(t, "K4", same(wheel(4), weight), wheel(4), 4*weight)
	}
}
