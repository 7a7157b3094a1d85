package paths_test

import (
	"math"
	"slices"
	"testing"

	"filigree/api"
	"filigree/paths"
)

// P1203: what is right and what is not, told by hand.
func TestCheckTold(t *testing.T) {
	lone := api.Graph{N: 1}
	loop := multi(1, [3]int64{0, 0, 0})
	row := multi(3, [3]int64{0, 1, 5}, [3]int64{2, 1, 6})
	twin := multi(2, [3]int64{0, 1, 5}, [3]int64{1, 0, 5}, [3]int64{0, 1, 6})
	apart := multi(5, [3]int64{0, 1, 2}, [3]int64{2, 3, 1}, [3]int64{4, 4, 0})
	still := multi(4, [3]int64{0, 1, 0}, [3]int64{1, 2, 0}, [3]int64{2, 3, 0}, [3]int64{3, 1, 0}, [3]int64{2, 2, 0})
	square := multi(4, [3]int64{0, 1, 1}, [3]int64{1, 2, 1}, [3]int64{0, 3, 1}, [3]int64{3, 2, 1}, [3]int64{1, 3, 1})
	for _, c := range []struct {
		what string
		m    api.Graph
		from int
		dist []int64
		via  []int
		want api.Kind
	}{
		{"a vertex alone", lone, 0, []int64{0}, []int{-1}, api.OK},
		{"a vertex alone, not 0", lone, 0, []int64{1}, []int{-1}, api.BadWitness},
		{"a vertex alone, no way to itself", lone, 0, []int64{-1}, []int{-1}, api.BadWitness},
		{"a vertex alone, a via", lone, 0, []int64{0}, []int{0}, api.BadWitness},
		{"a vertex alone, a via below -1", lone, 0, []int64{0}, []int{-2}, api.BadWitness},
		{"a vertex alone, no list", lone, 0, nil, nil, api.BadWitness},
		{"a vertex alone, no dist", lone, 0, nil, []int{-1}, api.BadWitness},
		{"a vertex alone, no via", lone, 0, []int64{0}, []int{}, api.BadWitness},
		{"a vertex alone, dist too long", lone, 0, []int64{0, -1}, []int{-1}, api.BadWitness},
		{"a vertex alone, via too long", lone, 0, []int64{0}, []int{-1, -1}, api.BadWitness},
		{"a loop", loop, 0, []int64{0}, []int{-1}, api.OK},
		{"from by its own loop", loop, 0, []int64{0}, []int{0}, api.BadWitness},
		{"a way", row, 0, []int64{0, 5, 11}, []int{-1, 0, 1}, api.OK},
		{"a way, from the middle", row, 1, []int64{5, 0, 6}, []int{0, -1, 1}, api.OK},
		{"a way, from another vertex", row, 2, []int64{0, 5, 11}, []int{-1, 0, 1}, api.BadWitness},
		{"a way, all farther by 1", row, 0, []int64{0, 6, 12}, []int{-1, 0, 1}, api.BadWitness},
		{"a way, all nearer by 1", row, 0, []int64{0, 4, 10}, []int{-1, 0, 1}, api.BadWitness},
		{"a way, the last is farther", row, 0, []int64{0, 5, 12}, []int{-1, 0, 1}, api.BadWitness},
		{"a way, the last is nearer", row, 0, []int64{0, 5, 10}, []int{-1, 0, 1}, api.BadWitness},
		{"a way, the last has none", row, 0, []int64{0, 5, -1}, []int{-1, 0, -1}, api.BadWitness},
		{"a way, the last has no via", row, 0, []int64{0, 5, 11}, []int{-1, 0, -1}, api.BadWitness},
		{"a way, the last has no dist", row, 0, []int64{0, 5, -1}, []int{-1, 0, 1}, api.BadWitness},
		{"a way, all but from have none", row, 0, []int64{0, -1, -1}, []int{-1, -1, -1}, api.BadWitness},
		{"a way, a dist below -1", row, 0, []int64{0, 5, -2}, []int{-1, 0, 1}, api.BadWitness},
		{"a way, an edge of others", row, 0, []int64{0, 5, 11}, []int{-1, 0, 0}, api.BadWitness},
		{"a way, the edge away from from", row, 0, []int64{0, 5, 11}, []int{-1, 1, 1}, api.BadWitness},
		{"a way, a place beyond", row, 0, []int64{0, 5, 11}, []int{-1, 0, 2}, api.BadWitness},
		{"a way, a place below -1", row, 0, []int64{0, 5, 11}, []int{-1, 0, -2}, api.BadWitness},
		{"a way, from has a via", row, 0, []int64{0, 5, 11}, []int{0, 0, 1}, api.BadWitness},
		{"a way, from is not 0", row, 0, []int64{1, 6, 12}, []int{-1, 0, 1}, api.BadWitness},
		{"side by side, the first", twin, 0, []int64{0, 5}, []int{-1, 0}, api.OK},
		{"side by side, the second", twin, 0, []int64{0, 5}, []int{-1, 1}, api.OK},
		{"side by side, a longer one", twin, 0, []int64{0, 5}, []int{-1, 2}, api.BadWitness},
		{"side by side, a longer one and its weight", twin, 0, []int64{0, 6}, []int{-1, 2}, api.BadWitness},
		{"several", apart, 0, []int64{0, 2, -1, -1, -1}, []int{-1, 0, -1, -1, -1}, api.OK},
		{"several, numbers of another one's", apart, 0, []int64{0, 2, 0, 1, -1}, []int{-1, 0, -1, 1, -1}, api.BadWitness},
		{"several, dist without a way", apart, 0, []int64{0, 2, -1, -1, 0}, []int{-1, 0, -1, -1, -1}, api.BadWitness},
		{"several, dist and a loop without a way", apart, 0, []int64{0, 2, -1, -1, 0}, []int{-1, 0, -1, -1, 2}, api.BadWitness},
		{"several, via without a way", apart, 0, []int64{0, 2, -1, -1, -1}, []int{-1, 0, -1, -1, 2}, api.BadWitness},
		{"several, dist below -1", apart, 0, []int64{0, 2, -2, -2, -1}, []int{-1, 0, -1, -1, -1}, api.BadWitness},
		{"several, dist of 2 and 3 by each other", apart, 0, []int64{0, 2, 0, 1, -1}, []int{-1, 0, 1, 1, -1}, api.BadWitness},
		{"weights of 0", still, 0, []int64{0, 0, 0, 0}, []int{-1, 0, 1, 2}, api.OK},
		{"weights of 0, another way", still, 0, []int64{0, 0, 0, 0}, []int{-1, 0, 2, 3}, api.OK},
		{"weights of 0, round", still, 0, []int64{0, 0, 0, 0}, []int{-1, 1, 2, 3}, api.BadWitness},
		{"weights of 0, round the other way", still, 0, []int64{0, 0, 0, 0}, []int{-1, 3, 1, 2}, api.BadWitness},
		{"weights of 0, to and fro", still, 0, []int64{0, 0, 0, 0}, []int{-1, 0, 2, 2}, api.BadWitness},
		{"weights of 0, come to from to and fro", still, 0, []int64{0, 0, 0, 0}, []int{-1, 1, 1, 3}, api.BadWitness},
		{"weights of 0, a loop", still, 0, []int64{0, 0, 0, 0}, []int{-1, 0, 4, 3}, api.BadWitness},
		{"weights of 0, come to a loop", still, 0, []int64{0, 0, 0, 0}, []int{-1, 0, 4, 2}, api.BadWitness},
		{"a square", square, 0, []int64{0, 1, 2, 1}, []int{-1, 0, 1, 2}, api.OK},
		{"a square, as short", square, 0, []int64{0, 1, 2, 1}, []int{-1, 0, 3, 2}, api.OK},
		{"a square, across", square, 0, []int64{0, 1, 2, 1}, []int{-1, 4, 1, 2}, api.BadWitness},
		{"a square, round and longer", square, 0, []int64{0, 3, 2, 1}, []int{-1, 1, 3, 2}, api.BadWitness},
	} {
		isKind(t, c.what, paths.Check(c.m, c.from, c.dist, c.via), c.want)
	}
}

// P1203, rule 6: numbers at the ends of their types are wrong ones, and no sum of them is taken for a right one.
func TestCheckOfGreatNumbers(t *testing.T) {
	m := multi(3, [3]int64{0, 1, 1}, [3]int64{1, 2, api.MaxW - 1}, [3]int64{2, 2, 0})
	numbers := []int64{math.MinInt64, math.MinInt64 + 1, math.MinInt64 + api.MaxW, -api.MaxW, -2, -1, 0, 1, api.MaxW,
		math.MaxInt64 - api.MaxW, math.MaxInt64 - 1, math.MaxInt64}
	places := []int{math.MinInt, -2, -1, 0, 1, 2, 3, math.MaxInt}
	right := 0
	for from := range m.N {
		least := leastOf(m, from)
		lists(m.N, 0, len(numbers)-1, func(chosen []int) {
			dist := []int64{numbers[chosen[0]], numbers[chosen[1]], numbers[chosen[2]]}
			lists(m.N, 0, len(places)-1, func(at []int) {
				via := []int{places[at[0]], places[at[1]], places[at[2]]}
				if isChecked(t, m, from, least, dist, via) == api.OK {
					right++
				}
			})
		})
	}
	if right == 0 {
		t.Errorf("none of them is right")
	}
}

// P1203, P7: right numbers are spoilt at one place.
func TestSpoilt(t *testing.T) {
	isNone := func(what string, m api.Graph, from int, dist []int64, via []int) {
		t.Helper()
		if k := paths.Check(m, from, dist, via); k != api.BadWitness {
			t.Fatalf("%s: Check(%v, %d, %v, %v): kind %d", what, m, from, dist, via, int(k))
		}
	}
	for _, s := range samples() {
		for from := 0; from < s.m.N; from += 1 + s.m.N/8 {
			dist, via, _ := paths.From(s.m, from)
			for v := range s.m.N {
				for _, wrong := range []int64{dist[v] - 1, dist[v] + 1, -2, math.MinInt64, math.MaxInt64} {
					spoilt := slices.Clone(dist)
					spoilt[v] = wrong
					isNone(s.what+", a wrong dist", s.m, from, spoilt, via)
				}
				for _, wrong := range []int{-2, math.MinInt, len(s.m.E), math.MaxInt} {
					spoilt := slices.Clone(via)
					spoilt[v] = wrong
					isNone(s.what+", a wrong via", s.m, from, dist, spoilt)
				}
				isNone(s.what+", dist too short", s.m, from, dist[:v], via)
				isNone(s.what+", via too short", s.m, from, dist, via[:v])
			}
			isNone(s.what+", dist too long", s.m, from, append(slices.Clone(dist), -1), via)
			isNone(s.what+", via too long", s.m, from, dist, append(slices.Clone(via), -1))
		}
	}
}

// P1203: each via's place is put in turn at each vertex: right just if the words say so.
func TestOtherVias(t *testing.T) {
	counts := map[api.Kind]int{}
	for _, s := range samples() {
		if s.m.N > 20 || len(s.m.E) > 40 {
			continue
		}
		for from := range s.m.N {
			dist, via, _ := paths.From(s.m, from)
			for v := range s.m.N {
				spoilt := slices.Clone(via)
				for place := -1; place <= len(s.m.E); place++ {
					spoilt[v] = place
					counts[isChecked(t, s.m, from, dist, dist, spoilt)]++
				}
			}
		}
	}
	if counts[api.OK] == 0 || counts[api.BadWitness] == 0 {
		t.Errorf("right and wrong ones are asked for: %v", counts)
	}
}

// P1203: From's numbers of one vertex are those of no other.
func TestOfAnotherVertex(t *testing.T) {
	for _, s := range samples() {
		for v := range s.m.N {
			dist, via, _ := paths.From(s.m, v)
			for u := range s.m.N {
				if k := paths.Check(s.m, u, dist, via); (k == api.OK) != (u == v) {
					t.Fatalf("%s: numbers of %d, checked from %d: kind %d", s.what, v, u, int(k))
				}
			}
		}
	}
}
