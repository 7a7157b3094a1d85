package pfaffian_test

import (
	"fmt"
	"math/big"
	"slices"
	"testing"

	"filigree/api"
	"filigree/pfaffian"
)

// This file holds the chapter's words themselves, by slow ways of their own.

// roundsOf is all faces of a system: each dart is gone from to the one behind it, till the first one comes again.
func roundsOf(r [][]int) [][]api.Dart {
	gone := map[api.Dart]bool{}
	var rounds [][]api.Dart
	for u, list := range r {
		for _, v := range list {
			var round []api.Dart
			for d := (api.Dart{U: u, V: v}); !gone[d]; {
				gone[d] = true
				round = append(round, d)
				around := r[d.V]
				d = api.Dart{U: d.V, V: around[(slices.Index(around, d.U)+1)%len(around)]}
			}
			if len(round) > 0 {
				rounds = append(rounds, round)
			}
		}
	}
	return rounds
}

// leastOf is of each vertex the least one that it hangs together with.
func leastOf(g api.Graph) []int {
	least := make([]int, g.N)
	for v := range least {
		least[v] = v
	}
	for changed := true; changed; {
		changed = false
		for _, e := range g.E {
			if low := min(least[e.U], least[e.V]); least[e.U] != low || least[e.V] != low {
				least[e.U], least[e.V], changed = low, low, true
			}
		}
	}
	return least
}

// notOdd is, of each component by its least vertex, the numbers of the faces that are not odd.
func notOdd(g api.Graph, rounds [][]api.Dart, along []bool) map[int][]int {
	goes := map[api.Dart]bool{}
	for place, e := range g.E {
		goes[api.Dart{U: e.U, V: e.V}] = along[place]
		goes[api.Dart{U: e.V, V: e.U}] = !along[place]
	}
	least := leastOf(g)
	faces := map[int][]int{}
	for i, round := range rounds {
		count := 0
		for _, d := range round {
			if goes[d] {
				count++
			}
		}
		if count%2 == 0 {
			first := least[round[0].U]
			faces[first] = append(faces[first], i)
		}
	}
	return faces
}

// isGood tells whether a direction is good.
func isGood(g api.Graph, r [][]int, along []bool) bool {
	for _, faces := range notOdd(g, roundsOf(r), along) {
		if len(faces) > 1 {
			return false
		}
	}
	return true
}

// bySets is how many sets of edges have each vertex as an end of just one: all sets are tried.
func bySets(g api.Graph) int {
	count := 0
	for set := range 1 << len(g.E) {
		ends := make([]int, g.N)
		for place, e := range g.E {
			ends[e.U] += set >> place & 1
			ends[e.V] += set >> place & 1
		}
		if !slices.ContainsFunc(ends, func(n int) bool { return n != 1 }) {
			count++
		}
	}
	return count
}

// byChoice is the same: the first vertex that has no edge yet gets each of those that it may have.
func byChoice(g api.Graph) *big.Int {
	near := make([][]int, g.N)
	for _, e := range g.E {
		near[e.U] = append(near[e.U], e.V)
	}
	taken := make([]bool, g.N)
	var from func(v int) int64
	from = func(v int) int64 {
		for v < g.N && taken[v] {
			v++
		}
		if v == g.N {
			return 1
		}
		count := int64(0)
		for _, u := range near[v] { // those below v are all taken
			if !taken[u] {
				taken[u] = true
				count += from(v + 1)
				taken[u] = false
			}
		}
		return count
	}
	return big.NewInt(from(0))
}

// byFront is the same of a graph each of whose vertices is joined to near ones alone: of those that are joined to later ones it is kept
// which have an edge, and in how many ways.
func byFront(g api.Graph) *big.Int {
	last := make([]int, g.N)
	earlier := make([][]int, g.N)
	for v := range last {
		last[v] = v
	}
	for _, e := range g.E {
		last[e.U] = max(last[e.U], e.V)
		earlier[e.V] = append(earlier[e.V], e.U)
	}
	var open []int // the vertices of which it is kept, as the bits of a number
	ways := map[uint64]*big.Int{0: big.NewInt(1)}
	for v := range g.N {
		own := uint64(1) << len(open)
		next := map[uint64]*big.Int{}
		add := func(set uint64, count *big.Int) {
			for i, u := range open {
				if last[u] == v && set>>i&1 == 0 {
					return
				}
			}
			if last[v] == v && set&own == 0 {
				return
			}
			kept, at := uint64(0), 0
			for i, u := range append(open, v) {
				if last[u] > v {
					kept |= set >> i & 1 << at
					at++
				}
			}
			if next[kept] == nil {
				next[kept] = new(big.Int)
			}
			next[kept].Add(next[kept], count)
		}
		for set, count := range ways {
			add(set, count)
			for _, u := range earlier[v] {
				if bit := uint64(1) << slices.Index(open, u); set&bit == 0 {
					add(set|bit|own, count)
				}
			}
		}
		ways = next
		open = slices.DeleteFunc(append(open, v), func(u int) bool { return last[u] <= v })
	}
	if ways[0] == nil {
		return new(big.Int)
	}
	return ways[0]
}

// wide is a number of the program as one of the library; it must be normal.
func wide(t *testing.T, a api.Int) *big.Int {
	t.Helper()
	n := new(big.Int)
	for _, limb := range slices.Backward(a.Mag) {
		n.Lsh(n, 32).Or(n, big.NewInt(int64(limb)))
	}
	if len(a.Mag) > 0 && a.Mag[len(a.Mag)-1] == 0 || len(a.Mag) == 0 && a.Neg {
		t.Fatalf("not normal: %v", a)
	}
	if a.Neg {
		n.Neg(n)
	}
	return n
}

// isCount fails the test unless Count answers this number.
func isCount(t *testing.T, what string, g api.Graph, r [][]int, want *big.Int) {
	t.Helper()
	count, k := pfaffian.Count(g, r)
	if got := wide(t, count); k != api.OK || got.Cmp(want) != 0 {
		t.Fatalf("%s: Count(%s): %v, not %v, kind %d", what, short(g, r), got, want, int(k))
	}
}

// isOriented fails the test unless what Orient answers is good, as the words say it and as Check says it; it is handed on.
func isOriented(t *testing.T, what string, g api.Graph, r [][]int) []bool {
	t.Helper()
	along, k := pfaffian.Orient(g, r)
	if k != api.OK || len(along) != len(g.E) {
		t.Fatalf("%s: Orient(%s): %d truths, kind %d", what, short(g, r), len(along), int(k))
	}
	if !isGood(g, r, along) {
		t.Fatalf("%s: Orient(%s): %v", what, short(g, r), along)
	}
	isChecked(t, what, g, r, along, api.OK)
	return along
}

// isChecked fails the test unless Check answers this kind.
func isChecked(t *testing.T, what string, g api.Graph, r [][]int, along []bool, want api.Kind) {
	t.Helper()
	if k := pfaffian.Check(g, r, along); k != want {
		t.Fatalf("%s: Check(%s, %d truths): kind %d, not %d", what, short(g, r), len(along), int(k), int(want))
	}
}

// short is the text of a system that may be too great to be shown.
func short(g api.Graph, r [][]int) string {
	if len(g.E) > 60 || len(r) > 60 {
		return fmt.Sprint(g.N, " vertices, ", len(g.E), " edges")
	}
	return fmt.Sprint(g, ", ", r)
}

// The words' ways agree with each other.
func TestWords(t *testing.T) {
	for n := range 6 {
		smalls(n, func(g api.Graph) {
			want := big.NewInt(int64(bySets(g)))
			if a, b := byChoice(g), byFront(g); a.Cmp(want) != 0 || b.Cmp(want) != 0 {
				t.Fatalf("%v: %v, %v and %v", g, want, a, b)
			}
		})
	}
	for _, s := range samples(9) {
		if a, b := byChoice(s.g), byFront(s.g); a.Cmp(b) != 0 {
			t.Fatalf("%s: %v: %v and %v", s.what, s.g, a, b)
		}
	}
}
