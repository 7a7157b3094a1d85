package cut_test

import (
	"slices"
	"testing"

	"filigree/api"
	"filigree/cut"
	"filigree/rotation"
)

// P1504: a heaviest cut is at least half of all weights, and never above Bound; nor is any other cut.
func TestHalfAndBound(t *testing.T) {
	d := dice(1540)
	for _, s := range samples(24) {
		_, w, _ := cut.Max(s.g, s.r)
		bound, _ := cut.Bound(s.g)
		if total := totalOf(s.g); w < total-w || w > bound || bound > total {
			t.Fatalf("%s: %v: %d, Bound %d, of %d", s.what, s.g, w, bound, total)
		}
		for range 3 {
			if other, k := cut.Weight(s.g, d.truths(s.g.N)); k != api.OK || other > w {
				t.Fatalf("%s: %v: %d, but another one of %d, kind %d", s.what, s.g, w, other, int(k))
			}
		}
	}
}

// P1504: turned sides are the same cut, also those of some components alone.
func TestTurnedSides(t *testing.T) {
	d := dice(1541)
	for _, s := range samples(15) {
		heaviest, _, _ := cut.Max(s.g, s.r)
		least := leastOf(s.g)
		for _, side := range [][]bool{heaviest, d.truths(s.g.N)} {
			across, _ := cut.Across(s.g, side)
			w, _ := cut.Weight(s.g, side)
			chosen := d.truths(s.g.N) // of each component, by its least vertex, whether it is turned
			for _, turns := range []func(v int) bool{
				func(int) bool { return true },
				func(v int) bool { return chosen[least[v]] },
			} {
				turned := slices.Clone(side)
				for v := range turned {
					turned[v] = side[v] != turns(v)
				}
				again, k := cut.Across(s.g, turned)
				if sum, kind := cut.Weight(s.g, turned); k != api.OK || kind != api.OK || !slices.Equal(again, across) || sum != w {
					t.Fatalf("%s: %v: %v of %d, turned %v of %d", s.what, s.g, across, w, again, sum)
				}
			}
		}
	}
}

// P1504: what can be coloured by two is cut whole, and its bound is all of its weights.
func TestCutWhole(t *testing.T) {
	d := dice(1542)
	poles := told(of(between(2, 9)))
	for what, r := range map[string][][]int{
		"no edge": alone(3), "way": way(9), "ring": ring(12), "star": star(12), "grid": grid(6, 7), "nest": nest(6, 4), "tree": d.tree(40),
		"poles": poles, "several": beside(alone(1), ring(6), grid(3, 4), d.tree(9), alone(1), poles),
		"glued": glued(glued(ring(4), ring(6)), grid(3, 3)), "bridged": bridged(nest(3, 6), poles),
	} {
		for _, by := range d.weights() {
			for _, system := range [][][]int{r, d.named(r)} {
				g := weighed(of(system), by.weight)
				side := isMax(t, what, g, system, totalOf(g))
				isBound(t, what, g, totalOf(g))
				// Where each edge weighs something there is no other cut that is as heavy.
				isSome := func(e api.Edge) bool { return e.W == 0 }
				if !slices.ContainsFunc(g.E, isSome) && len(acrossOf(g, side)) != len(g.E) {
					t.Fatalf("%s: Max(%v, %v): %v", what, g, system, side)
				}
			}
		}
	}
}

// P1502, P1504: other names, a mirror and lists begun elsewhere change no weight; weights that are all multiplied multiply it.
func TestSameWeight(t *testing.T) {
	d := dice(1543)
	for _, s := range d.shapes(21) {
		weight := func(e api.Edge) int64 { return int64((e.U*7+e.V*11)%13) * 1000 }
		g := weighed(s.g, func(place int) int64 { return weight(s.g.E[place]) })
		_, want, k := cut.Max(g, s.r)
		if k != api.OK {
			t.Fatalf("%s: kind %d", s.what, int(k))
		}
		isMax(t, s.what+", mirror", g, rotation.Mirror(s.r), want)
		isMax(t, s.what+", as planar tells it", g, told(g), want)
		isMax(t, s.what+", more", weighed(g, func(place int) int64 { return g.E[place].W * 1000 }), s.r, want*1000)
		isMax(t, s.what+", less", weighed(g, func(place int) int64 { return g.E[place].W / 1000 }), s.r, want/1000)
		name := d.order(g.N)
		r := make([][]int, g.N)
		for v, list := range s.r {
			for _, u := range list {
				r[name[v]] = append(r[name[v]], name[u])
			}
		}
		behind := make([]int, g.N)
		for v, other := range name {
			behind[other] = v
		}
		named := of(r)
		for place, e := range named.E {
			u, v := behind[e.U], behind[e.V]
			named.E[place].W = weight(api.Edge{U: min(u, v), V: max(u, v)})
		}
		isMax(t, s.what+", named anew", named, r, want)
	}
}

// P1502: cuts of graphs beside each other, with a vertex in common, or with an edge between, add up, and their bounds too.
func TestSums(t *testing.T) {
	d := dice(1544)
	var last sample
	for _, s := range d.shapes(17) {
		if len(s.r) == 0 {
			continue
		}
		if len(last.r) > 0 {
			_, a, _ := cut.Max(ones(last.r), last.r)
			_, b, _ := cut.Max(ones(s.r), s.r)
			for what, c := range map[string]struct {
				r    [][]int
				more int64
			}{
				"beside":  {beside(last.r, s.r), 0},
				"glued":   {glued(last.r, s.r), 0},
				"bridged": {bridged(last.r, s.r), 1},
			} {
				isMax(t, s.what+", "+what+" "+last.what, ones(c.r), c.r, a+b+c.more)
				first, _ := cut.Bound(ones(last.r))
				second, _ := cut.Bound(ones(s.r))
				isBound(t, what, ones(c.r), first+second+c.more)
			}
		}
		last = s
	}
}

// ones is the graph of a system, all of its weights 1.
func ones(r [][]int) api.Graph { return weighed(of(r), func(int) int64 { return 1 }) }

// P1502: an edge that weighs more makes no cut lighter, and heavier by no more than that; one that goes makes none heavier.
func TestOneEdgeMore(t *testing.T) {
	d := dice(1545)
	for _, s := range d.shapes(9) {
		g := weighed(s.g, func(int) int64 { return int64(d.below(9)) })
		_, w, _ := cut.Max(g, s.r)
		for place, e := range g.E {
			more := weighed(g, func(other int) int64 { return g.E[other].W })
			more.E[place].W += 4
			if _, after, k := cut.Max(more, s.r); k != api.OK || after < w || after > w+4 {
				t.Fatalf("%s: %v: %d, with 4 more at %d: %d, kind %d", s.what, g, w, place, after, int(k))
			}
			less := api.Graph{N: g.N, E: slices.Delete(slices.Clone(g.E), place, place+1)}
			r := make([][]int, g.N)
			for v, list := range s.r {
				for _, u := range list {
					if min(u, v) != e.U || max(u, v) != e.V {
						r[v] = append(r[v], u)
					}
				}
			}
			if _, after, k := cut.Max(less, r); k != api.OK || after > w || after < w-e.W {
				t.Fatalf("%s: %v: %d, without the edge %d: %d, kind %d", s.what, g, w, place, after, int(k))
			}
		}
	}
}
