package tjoin_test

import (
	"slices"
	"testing"

	"filigree/api"
	"filigree/paths"
	"filigree/tjoin"
)

// P1403: without vertices nothing is joined.
func TestNothingIsJoined(t *testing.T) {
	for _, s := range samples(14) {
		for _, list := range [][]int{nil, {}} {
			if in, cost, k := tjoin.Join(s.m, list); len(in) != 0 || cost != 0 || k != api.OK {
				t.Fatalf("%s: %v, %d, kind %d", s.what, in, cost, int(k))
			}
		}
	}
}

// P1403: the join of two vertices costs as much as they are apart.
func TestTwoVertices(t *testing.T) {
	for _, s := range samples(11) {
		for v := range s.m.N {
			dist, _, _ := paths.From(s.m, v)
			for u := range v {
				isLeast(t, s.what, s.m, []int{u, v}, dist[u])
			}
		}
	}
}

// P1403: two joins of the same vertices differ by edges without odd vertices; turned along such edges a join stays one, and is no
// cheaper.
func TestJoinsDiffer(t *testing.T) {
	d := dice(14030)
	for _, s := range samples(14) {
		list := evened(s.m, d.some(s.m.N, 2))
		in, cost, _ := tjoin.Join(s.m, list)
		rounds := roundsOf(s.m)
		for range 4 {
			other := in
			for _, place := range d.some(len(rounds), 3) {
				other = differ(other, rounds[place])
			}
			isKind(t, s.what+": turned", tjoin.Check(s.m, list, other), api.OK)
			isOdd(t, s.what, s.m, differ(in, other), nil)
			isKind(t, s.what+": the difference", tjoin.Check(s.m, nil, differ(in, other)), api.OK)
			if sum := sumOf(s.m, other); sum < cost {
				t.Fatalf("%s: Join(%v, %v): %d, but %v of %d", s.what, s.m, list, cost, other, sum)
			}
		}
	}
}

// P1401, P1403: the odd vertices of two lists are those that are odd in just one of them.
func TestOddOfSums(t *testing.T) {
	d := dice(14031)
	for _, s := range samples(11) {
		a, b := d.some(len(s.m.E), 2), d.some(len(s.m.E), 2)
		isOdd(t, s.what, s.m, slices.Concat(a, b), differ(tjoin.Odd(s.m, a), tjoin.Odd(s.m, b)))
		isOdd(t, s.what, s.m, differ(a, b), differ(tjoin.Odd(s.m, a), tjoin.Odd(s.m, b)))
	}
}

// P1402: names of vertices, the order of edges and of their ends change no cost.
func TestNames(t *testing.T) {
	d := dice(14032)
	for _, s := range samples(14) {
		list := evened(s.m, d.some(s.m.N, 2))
		_, cost, _ := tjoin.Join(s.m, list)
		other, name := d.named(s.m)
		named := make([]int, len(list))
		for i, v := range list {
			named[i] = name[v]
		}
		slices.Sort(named)
		isJoin(t, s.what+", named anew", other, named, cost)
	}
}

// P1402: what is beside something else costs what both do; joins of some vertices and of others make one of both, no cheaper one.
func TestSums(t *testing.T) {
	d := dice(14033)
	var last sample
	for _, s := range samples(11) {
		a, b := evened(last.m, d.some(last.m.N, 2)), evened(s.m, d.some(s.m.N, 2))
		_, first, _ := tjoin.Join(last.m, a)
		_, second, _ := tjoin.Join(s.m, b)
		both := slices.Clone(a)
		for _, v := range b {
			both = append(both, v+last.m.N)
		}
		isJoin(t, last.what+" beside "+s.what, beside(last.m, s.m), both, first+second)
		other := evened(s.m, d.some(s.m.N, 2))
		_, third, _ := tjoin.Join(s.m, other)
		if _, cost, k := tjoin.Join(s.m, differ(b, other)); k != api.OK || cost > second+third {
			t.Fatalf("%s: %v and %v: %d and %d, but %d, kind %d", s.what, b, other, second, third, cost, int(k))
		}
		last = s
	}
}

// P1402: an edge that is not taken may go, and costs no more then; one more edge makes no join dearer.
func TestOneEdgeLessOrMore(t *testing.T) {
	d := dice(14034)
	for _, s := range samples(8) {
		list := evened(s.m, d.some(s.m.N, 2))
		in, cost, _ := tjoin.Join(s.m, list)
		for place := range s.m.E {
			m := api.Graph{N: s.m.N, E: slices.Delete(slices.Clone(s.m.E), place, place+1)}
			_, after, k := tjoin.Join(m, list)
			if !slices.Contains(in, place) && (k != api.OK || after != cost) || k == api.OK && after < cost {
				t.Fatalf("%s: %d; without the edge %d: %d, kind %d", s.what, cost, place, after, int(k))
			}
		}
		if s.m.N > 0 {
			m := joined(s.m, d.any(s.m.N, 1, 5))
			if _, after, k := tjoin.Join(m, list); k != api.OK || after > cost {
				t.Fatalf("%s: %d; with %v: %d, kind %d", s.what, cost, m.E[len(m.E)-1], after, int(k))
			}
		}
	}
}
