package kuratowski_test

import (
	"slices"
	"testing"

	"filigree/api"
	"filigree/kuratowski"
)

// P803: of a witness no edge can be left out.
func TestNoEdgeLess(t *testing.T) {
	for _, list := range witnesses() {
		for _, s := range list {
			for i := range s.in {
				isClass(t, "an edge less", s.g, slices.Delete(slices.Clone(s.in), i, i+1), 0)
			}
		}
	}
}

// P803: nor are some edges of a witness one, if others are left out.
func TestNoFewerEdges(t *testing.T) {
	for class, g := range map[int]api.Graph{
		5:  sorted(6, append(among(upTo(5)...)[2:], along(0, 5, 1)...)...),
		33: sorted(7, append(between(3, 3)[2:], along(0, 6, 3)...)...),
	} {
		whole := uint(1)<<len(g.E) - 1
		isClass(t, "whole", g, chosen(whole), class)
		for set := range whole {
			isClass(t, "edges less", g, chosen(set), 0)
		}
	}
}

// P802: a witness and an edge more is none, since two degrees are other ones then.
func TestNoEdgeMore(t *testing.T) {
	for _, list := range witnesses() {
		for _, s := range list {
			for i := range s.g.E {
				if !slices.Contains(s.in, i) {
					isClass(t, "an edge more", s.g, append(slices.Clone(s.in), i), 0)
				}
			}
		}
	}
}

// longer is a sample in which a new vertex stands on one of the edges; it is the last vertex, or the first one.
func longer(s sample, place int, first bool) sample {
	shift, fresh := 0, s.g.N
	if first {
		shift, fresh = 1, 0
	}
	var ends, all []int
	for i, e := range s.g.E {
		u, v := e.U+shift, e.V+shift
		over := []int{u, v}
		if i == place {
			over = along(u, fresh, v)
		}
		all = append(all, over...)
		if slices.Contains(s.in, i) {
			ends = append(ends, over...)
		}
	}
	g := sorted(s.g.N+1, all...)
	return sample{g, places(g, ends...)}
}

// P803: a way that is made longer by a new vertex is still one: a witness stays one of its class.
func TestLonger(t *testing.T) {
	for class, list := range witnesses() {
		for _, s := range list {
			for _, place := range s.in {
				for _, first := range []bool{false, true} {
					long := longer(s, place, first)
					isClass(t, "longer", long.g, long.in, class)
				}
			}
		}
	}
}

// P803: as many ways as before, and just one of them has a vertex more.
func TestLongerWays(t *testing.T) {
	for _, s := range all() {
		before, _ := kuratowski.Ways(s.g, s.in)
		for _, place := range []int{s.in[0], s.in[len(s.in)-1]} {
			long := longer(s, place, false)
			ways, k := kuratowski.Ways(long.g, long.in)
			if k != api.OK || len(ways) != len(before) {
				t.Fatalf("Ways of %v, %v: %d ways, kind %d, not %d", long.g, long.in, len(ways), int(k), len(before))
			}
			on := 0
			for _, way := range ways {
				at := slices.Index(way, s.g.N)
				if at >= 0 {
					on++
					way = slices.Delete(slices.Clone(way), at, at+1)
				}
				back := slices.Clone(way)
				slices.Reverse(back)
				is := func(other []int) bool { return slices.Equal(other, way) || slices.Equal(other, back) }
				if !slices.ContainsFunc(before, is) {
					t.Fatalf("Ways of %v, %v: %v is new", long.g, long.in, way)
				}
			}
			if on != 1 {
				t.Fatalf("Ways of %v, %v: %d ways go over the new vertex", long.g, long.in, on)
			}
		}
	}
}

// P801, P802: vertices named anew: the class stays, and the ways are the same ones under their new names.
func TestNamedAnew(t *testing.T) {
	d := dice(803)
	for _, s := range all() {
		name := d.order(s.g.N)
		var ends, some []int
		for i, e := range s.g.E {
			ends = append(ends, name[e.U], name[e.V])
			if slices.Contains(s.in, i) {
				some = append(some, name[e.U], name[e.V])
			}
		}
		g := sorted(s.g.N, ends...)
		in := places(g, some...)
		ways, _ := kuratowski.Ways(s.g, s.in)
		var want [][]int
		for _, way := range ways {
			named := make([]int, len(way))
			for i, v := range way {
				named[i] = name[v]
			}
			back := slices.Clone(named)
			slices.Reverse(back)
			if slices.Compare(back, named) < 0 {
				named = back
			}
			want = append(want, named)
		}
		slices.SortFunc(want, slices.Compare)
		if got, k := kuratowski.Ways(g, in); k != api.OK || !slices.EqualFunc(got, want, slices.Equal) {
			t.Fatalf("Ways of %v, %v: %v, kind %d, not %v", g, in, got, int(k), want)
		}
		class, _ := kuratowski.Class(s.g, s.in)
		isClass(t, "named anew", g, in, class)
	}
}
