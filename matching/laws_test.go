package matching_test

import (
	"slices"
	"testing"

	"filigree/api"
	"filigree/matching"
)

// costAndKind is the cost of Perfect's matching, and its kind.
func costAndKind(m api.Graph) (int64, api.Kind) {
	in, _, k := matching.Perfect(m)
	return matching.Cost(m, in), k
}

// P1305: a matching with a proof, whoever made it, costs no more than any other one.
func TestProofsProve(t *testing.T) {
	d := dice(13050)
	held := 0
	for range 300 {
		m := priced(d.paired(4, d.below(4)), func(int) int64 { return int64(d.below(3)) - 1 })
		least, _ := leastOf(m)
		matchings(m, func(in []int) {
			for range 200 {
				p := proof(int64(d.below(5)-2), int64(d.below(5)-2), int64(d.below(5)-2), int64(d.below(5)-2))
				if d.below(2) > 0 {
					p.B = append(p.B, set(int64(d.below(3)), slices.Delete([]int{0, 1, 2, 3}, d.below(4), 4)...))
				}
				if matching.Holds(m, in, p) != api.OK {
					continue
				}
				held++
				if cost := matching.Cost(m, in); cost != least {
					t.Fatalf("Holds(%v, %v, %v): it costs %d, not %d", m, in, p, cost, least)
				}
			}
		})
	}
	if held < 100 {
		t.Errorf("%d proofs are too few", held)
	}
}

// P1305: one more edge makes it no dearer, and takes no matching away.
func TestOneMoreEdge(t *testing.T) {
	d := dice(13051)
	cheaper, first := 0, 0
	for _, s := range samples(14) {
		if s.m.N < 2 {
			continue
		}
		cost, k := costAndKind(s.m)
		for range 3 {
			more := d.any(s.m.N, 1)
			more.E[0].W = int64(d.below(20)) - 10
			if len(s.m.E) > 0 {
				more.E[0].W += s.m.E[d.below(len(s.m.E))].W
				more.E[0].W = min(max(more.E[0].W, 1-api.MaxCost), api.MaxCost-1)
			}
			m := api.Graph{N: s.m.N, E: slices.Insert(slices.Clone(s.m.E), d.below(len(s.m.E)+1), more.E[0])}
			after, kind := costAndKind(m)
			switch {
			case kind != api.OK && kind != api.NoMatching:
				t.Fatalf("%s, with %v: kind %d", s.what, more.E[0], int(kind))
			case k == api.OK && (kind != api.OK || after > cost):
				t.Fatalf("%s: %d; with %v: %d, kind %d", s.what, cost, more.E[0], after, int(kind))
			case k == api.OK && after < cost:
				cheaper++
			case k != api.OK && kind == api.OK:
				first++
			}
		}
	}
	if cheaper == 0 || first == 0 {
		t.Errorf("%d were cheaper, %d were the first ones", cheaper, first)
	}
}

// P1304: an edge that is in no cheapest matching may go; one that is in the only one makes it dearer.
func TestOneEdgeLess(t *testing.T) {
	for _, s := range samples(10) {
		in, _, k := matching.Perfect(s.m)
		if k != api.OK {
			continue
		}
		cost := matching.Cost(s.m, in)
		for place := range s.m.E {
			m := api.Graph{N: s.m.N, E: slices.Delete(slices.Clone(s.m.E), place, place+1)}
			after, kind := costAndKind(m)
			if !slices.Contains(in, place) && (kind != api.OK || after != cost) {
				t.Fatalf("%s: %d; without the edge %d: %d, kind %d", s.what, cost, place, after, int(kind))
			}
			if kind == api.OK && after < cost {
				t.Fatalf("%s: %d; without the edge %d: %d", s.what, cost, place, after)
			}
		}
	}
}

// P1304: names of vertices, the order of edges and of their ends change no cost.
func TestNames(t *testing.T) {
	d := dice(13052)
	for _, s := range samples(14) {
		cost, k := costAndKind(s.m)
		other, _ := d.named(s.m)
		if c, kind := costAndKind(other); c != cost || kind != k {
			t.Fatalf("%s: %d, kind %d; named anew %d, kind %d", s.what, cost, int(k), c, int(kind))
		}
	}
}

// P1304: with one number more at all edges of a vertex the cost is more by it; what is beside something else costs what both do.
func TestSums(t *testing.T) {
	d := dice(13053)
	var last sample
	for _, s := range samples(12) {
		cost, k := costAndKind(s.m)
		if s.m.N > 0 {
			v, by := d.below(s.m.N), int64(d.below(100))-50
			isFitting := true
			m := priced(s.m, func(place int) int64 {
				e := s.m.E[place]
				if e.U == v || e.V == v {
					e.W += by
				}
				isFitting = isFitting && e.W > -api.MaxCost && e.W < api.MaxCost
				return e.W
			})
			if c, kind := costAndKind(m); isFitting && (kind != k || k == api.OK && c != cost+by) {
				t.Fatalf("%s: %d, kind %d; %d more at %d: %d, kind %d", s.what, cost, int(k), by, v, c, int(kind))
			}
		}
		lastCost, lastKind := costAndKind(last.m)
		c, kind := costAndKind(beside(last.m, s.m))
		if k == api.OK && lastKind == api.OK && (kind != api.OK || c != cost+lastCost) {
			t.Fatalf("%s beside %s: %d, kind %d, not %d", last.what, s.what, c, int(kind), cost+lastCost)
		}
		if (k != api.OK || lastKind != api.OK) && kind != api.NoMatching {
			t.Fatalf("%s beside %s: kind %d", last.what, s.what, int(kind))
		}
		last = s
	}
}
