package pfaffian_test

import (
	"fmt"
	"math/big"
	"slices"
	"testing"

	"filigree/api"
	"filigree/matrix"
	"filigree/pfaffian"
)

// pfaffianOf is the Pfaffian of a direction's matrix.
func pfaffianOf(t *testing.T, g api.Graph, along []bool) *big.Int {
	t.Helper()
	m, k := pfaffian.Matrix(g, along)
	p, kind := matrix.Pfaffian(m)
	if k != api.OK || kind != api.OK {
		t.Fatalf("Matrix(%v, %v): kinds %d and %d", g, along, int(k), int(kind))
	}
	return wide(t, p)
}

// countOf is what Count answers.
func countOf(t *testing.T, g api.Graph, r [][]int) *big.Int {
	t.Helper()
	count, k := pfaffian.Count(g, r)
	if k != api.OK {
		t.Fatalf("Count(%s): kind %d", short(g, r), int(k))
	}
	return wide(t, count)
}

// P1704: of all directions of small graphs those that Check calls good have the count as Pfaffian. No other one has more.
func TestPfaffianOfAllDirections(t *testing.T) {
	counts := map[api.Kind]int{}
	less := 0
	for n := range 6 {
		smallSystems(n, func(g api.Graph, r [][]int) {
			if len(g.E) > 7 {
				return
			}
			want := countOf(t, g, r)
			for number := range 1 << len(g.E) {
				along := truthsOf(len(g.E), number)
				k := pfaffian.Check(g, r, along)
				counts[k]++
				switch p := pfaffianOf(t, g, along); {
				case k == api.OK && p.Cmp(want) != 0 || p.Cmp(want) > 0:
					t.Fatalf("%v, %v, %v: %v, not %v, kind %d", g, r, along, p, want, int(k))
				case p.Cmp(want) < 0:
					less++
				}
			}
		})
	}
	if counts[api.OK] == 0 || counts[api.BadWitness] == 0 || less == 0 {
		t.Errorf("kinds of directions: %v, less than the count: %d", counts, less)
	}
}

// otherGood is a good direction made of another one: edges at some vertices are turned, and of each odd component one more edge, if the
// face that is not odd is beside it, so that another one is it then.
func (d *dice) otherGood(g api.Graph, r [][]int, along []bool) []bool {
	along = slices.Clone(along)
	for v := range g.N {
		if d.below(2) == 0 {
			continue
		}
		for place, e := range g.E {
			along[place] = along[place] != (e.U == v || e.V == v)
		}
	}
	rounds := roundsOf(r)
	for range 10 {
		for _, spared := range notOdd(g, rounds, along) {
			round := rounds[spared[0]]
			dart := round[d.below(len(round))]
			isIt := func(e api.Edge) bool { return e.U == min(dart.U, dart.V) && e.V == max(dart.U, dart.V) }
			place := slices.IndexFunc(g.E, isIt)
			along[place] = !along[place]
		}
	}
	return along
}

// P1704: the Pfaffian of any good direction's matrix is the count.
func TestPfaffianOfGoodDirections(t *testing.T) {
	d := dice(1750)
	for _, s := range samples(16) {
		want := countOf(t, s.g, s.r)
		along := isOriented(t, s.what, s.g, s.r)
		for i := range 4 {
			if got := pfaffianOf(t, s.g, along); got.Cmp(want) != 0 {
				t.Fatalf("%s: %v, %v, %v, direction %d: %v, not %v", s.what, s.g, s.r, along, i, got, want)
			}
			along = d.otherGood(s.g, s.r, along)
			isChecked(t, s.what+", another direction", s.g, s.r, along, api.OK)
		}
	}
}

// P1704: an odd component makes the Pfaffian and the count 0, whatever stands beside it.
func TestOddComponent(t *testing.T) {
	d := dice(1751)
	for _, s := range d.shapes(11) {
		for _, odd := range [][][]int{alone(1), ring(3), way(5), d.triangles(7)} {
			for _, r := range [][][]int{beside(s.r, odd), beside(odd, s.r), d.named(beside(odd, s.r, odd))} {
				g := of(r)
				along, _ := pfaffian.Orient(g, r)
				isCount(t, s.what, g, r, new(big.Int))
				if p := pfaffianOf(t, g, along); p.Sign() != 0 {
					t.Fatalf("%s: %v, %v: %v", s.what, g, r, p)
				}
			}
		}
	}
}

// P1704: two graphs beside one another have the product, whatever their vertices are named.
func TestProduct(t *testing.T) {
	d := dice(1752)
	list := d.shapes(15)
	for range 800 {
		a, b := list[d.below(len(list))], list[d.below(len(list))]
		want := new(big.Int).Mul(countOf(t, a.g, a.r), countOf(t, b.g, b.r))
		for i, r := range [][][]int{beside(a.r, b.r), d.named(beside(a.r, b.r))} {
			isCount(t, fmt.Sprint(a.what, " beside ", b.what, " ", i), of(r), r, want)
		}
		r := beside(a.r, b.r)
		along, _ := pfaffian.Orient(of(r), r)
		if p := pfaffianOf(t, of(r), along); p.Cmp(want) != 0 {
			t.Fatalf("%s beside %s: %v, not %v", a.what, b.what, p, want)
		}
	}
}

// cut is a system without two of its vertices: the others are named anew, in order.
func cut(r [][]int, a, b int) [][]int {
	name := func(v int) int {
		less := 0
		if v > a {
			less++
		}
		if v > b {
			less++
		}
		return v - less
	}
	var lists [][]int
	for v, list := range without(r, func(u, v int) bool { return u == a || u == b || v == a || v == b }) {
		if v == a || v == b {
			continue
		}
		for i, u := range list {
			list[i] = name(u)
		}
		lists = append(lists, list)
	}
	return lists
}

// P1704: each set either has an edge, and then it is one of the graph without this edge's ends, or is one of the graph without the edge.
func TestEdgeByEdge(t *testing.T) {
	d := dice(1753)
	some := 0
	for _, s := range d.shapes(18) {
		want := countOf(t, s.g, s.r)
		for place := range s.g.E {
			if d.below(4) > 0 {
				continue
			}
			e := s.g.E[place]
			less := without(s.r, func(u, v int) bool { return min(u, v) == e.U && max(u, v) == e.V })
			ends := cut(s.r, e.U, e.V)
			a, b := countOf(t, of(less), less), countOf(t, of(ends), ends)
			if new(big.Int).Add(a, b).Cmp(want) != 0 {
				t.Fatalf("%s: %v, %v: edge %v: %v and %v, not %v", s.what, s.g, s.r, e, a, b, want)
			}
			if a.Sign() > 0 && b.Sign() > 0 {
				some++
			}
		}
	}
	if some < 50 {
		t.Errorf("so many edges are of some sets, not of all: %d", some)
	}
}

// P1704: two graphs with an edge between: of two even ones this edge is in no set, of two odd ones in each.
func TestBridgedProduct(t *testing.T) {
	d := dice(1754)
	list := d.shapes(11)
	for range 500 {
		a, b := list[d.below(len(list))], list[d.below(len(list))]
		if len(a.r) == 0 || len(b.r) == 0 {
			continue
		}
		r := bridged(a.r, b.r)
		ends := cut(r, 0, len(a.r))
		want := new(big.Int).Mul(countOf(t, a.g, a.r), countOf(t, b.g, b.r))
		want.Add(want, countOf(t, of(ends), ends))
		isCount(t, a.what+" and "+b.what+" with an edge between", of(r), r, want)
	}
}
