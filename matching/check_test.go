package matching_test

import (
	"math"
	"math/big"
	"slices"
	"testing"

	"filigree/api"
	"filigree/matching"
)

// P1302: what is a perfect matching and what is not, told by hand.
func TestCheckTold(t *testing.T) {
	pair := multi(2, [3]int64{0, 1, 5}, [3]int64{1, 0, 7})
	square := multi(4, [3]int64{0, 1, 1}, [3]int64{1, 2, 5}, [3]int64{2, 3, 1}, [3]int64{3, 0, 5})
	for _, c := range []struct {
		what string
		m    api.Graph
		in   []int
		want api.Kind
	}{
		{"no vertex", api.Graph{}, nil, api.OK},
		{"no vertex, an empty list", api.Graph{}, []int{}, api.OK},
		{"no vertex, a place", api.Graph{}, []int{0}, api.BadWitness},
		{"a vertex alone", api.Graph{N: 1}, nil, api.BadWitness},
		{"two vertices, no edge", api.Graph{N: 2}, nil, api.BadWitness},
		{"two vertices, no edge, a place", api.Graph{N: 2}, []int{0}, api.BadWitness},
		{"two vertices", pair, []int{0}, api.OK},
		{"two vertices, the other edge", pair, []int{1}, api.OK},
		{"two vertices, both edges", pair, []int{0, 1}, api.BadWitness},
		{"two vertices, an edge twice", pair, []int{0, 0}, api.BadWitness},
		{"two vertices, none", pair, nil, api.BadWitness},
		{"a place beyond", pair, []int{2}, api.BadWitness},
		{"a place below 0", pair, []int{-1}, api.BadWitness},
		{"the greatest place", pair, []int{math.MaxInt}, api.BadWitness},
		{"the least place", pair, []int{math.MinInt}, api.BadWitness},
		{"a square", square, []int{0, 2}, api.OK},
		{"a square, the dear ones", square, []int{1, 3}, api.OK},
		{"a square, falling", square, []int{2, 0}, api.BadWitness},
		{"a square, side by side", square, []int{0, 1}, api.BadWitness},
		{"a square, one", square, []int{0}, api.BadWitness},
		{"a square, one twice", square, []int{0, 0}, api.BadWitness},
		{"a square, one twice, and the other", square, []int{0, 0, 2}, api.BadWitness},
		{"a square, all", square, []int{0, 1, 2, 3}, api.BadWitness},
		{"a square, a place beyond behind them", square, []int{0, 2, 4}, api.BadWitness},
		{"a square, a place below 0 ahead of them", square, []int{-1, 0, 2}, api.BadWitness},
		{"an odd ring", ring(3), []int{0}, api.BadWitness},
		{"an odd ring, two", ring(3), []int{0, 1}, api.BadWitness},
	} {
		isKind(t, c.what, matching.Check(c.m, c.in), c.want)
		isKind(t, c.what+", by the words", checkOf(c.m, c.in), c.want)
	}
}

// lists hands out every list of n numbers from low to high.
func lists(n, low, high int, with func(list []int)) {
	list := make([]int, n)
	var choose func(at int)
	choose = func(at int) {
		if at == n {
			with(list)
			return
		}
		for number := low; number <= high; number++ {
			list[at] = number
			choose(at + 1)
		}
	}
	choose(0)
}

// P1302: Check and Cost of all lists of few places, against the words.
func TestCheckOfAll(t *testing.T) {
	seen := map[api.Kind]int{}
	for _, s := range samples(6) {
		if len(s.m.E) > 7 {
			continue
		}
		for length := range 5 {
			lists(length, -1, len(s.m.E), func(in []int) {
				want := checkOf(s.m, in)
				seen[want]++
				if k := matching.Check(s.m, in); k != want {
					t.Fatalf("%s: Check(%v, %v): kind %d, not %d", s.what, s.m, in, int(k), int(want))
				}
				if got, want := matching.Cost(s.m, in), costOf(s.m, in); big.NewInt(got).Cmp(want) != 0 {
					t.Fatalf("%s: Cost(%v, %v): %d, not %d", s.what, s.m, in, got, want)
				}
			})
		}
	}
	if seen[api.OK] == 0 || seen[api.BadWitness] == 0 {
		t.Errorf("right and wrong ones are asked for: %v", seen)
	}
}

// P1302: all perfect matchings of small multigraphs are told so; spoilt in one place they are not.
func TestCheckOfMatchings(t *testing.T) {
	count := 0
	for _, s := range samples(8) {
		if len(s.m.E) > 14 {
			continue
		}
		matchings(s.m, func(in []int) {
			count++
			isKind(t, s.what, matching.Check(s.m, in), api.OK)
			for i := range in {
				for _, wrong := range []int{-1, len(s.m.E), math.MinInt, math.MaxInt} {
					spoilt := slices.Clone(in)
					spoilt[i] = wrong
					isKind(t, s.what+", a place that is none", matching.Check(s.m, spoilt), api.BadWitness)
				}
				isKind(t, s.what+", one too few", matching.Check(s.m, slices.Delete(slices.Clone(in), i, i+1)), api.BadWitness)
				isKind(t, s.what+", one twice", matching.Check(s.m, slices.Insert(slices.Clone(in), i, in[i])), api.BadWitness)
				if i > 0 {
					spoilt := slices.Clone(in)
					spoilt[i-1], spoilt[i] = in[i], in[i-1]
					isKind(t, s.what+", not rising", matching.Check(s.m, spoilt), api.BadWitness)
				}
			}
			for place := range s.m.E {
				at, there := slices.BinarySearch(in, place)
				if !there {
					isKind(t, s.what+", one too many", matching.Check(s.m, slices.Insert(slices.Clone(in), at, place)), api.BadWitness)
				}
			}
		})
	}
	if count < 1000 {
		t.Errorf("%d matchings are too few", count)
	}
}

// P1302: Cost, told by hand.
func TestCostTold(t *testing.T) {
	m := multi(4, [3]int64{0, 1, 3}, [3]int64{1, 2, -50}, [3]int64{2, 3, 700}, [3]int64{0, 1, 0})
	for _, c := range []struct {
		what string
		in   []int
		want int64
	}{
		{"none", nil, 0},
		{"an empty list", []int{}, 0},
		{"one", []int{2}, 700},
		{"one below 0", []int{1}, -50},
		{"a matching", []int{0, 2}, 703},
		{"no matching", []int{0, 1}, -47},
		{"falling", []int{2, 1, 0}, 653},
		{"twice", []int{1, 1}, -100},
		{"twice, apart", []int{0, 2, 0}, 706},
		{"all, thrice", []int{0, 1, 2, 3, 0, 1, 2, 3, 3, 2, 1, 0}, 3 * 653},
		{"a place below 0", []int{0, -1}, 0},
		{"a place below 0, first", []int{-1, 0}, 0},
		{"a place beyond", []int{4, 2}, 0},
		{"a place beyond, last", []int{0, 1, 2, 3, 4}, 0},
		{"the greatest place", []int{2, math.MaxInt}, 0},
		{"the least place", []int{math.MinInt, 2}, 0},
	} {
		if got := matching.Cost(m, c.in); got != c.want {
			t.Errorf("%s: %d, not %d", c.what, got, c.want)
		}
	}
	if got := matching.Cost(api.Graph{}, []int{0}); got != 0 {
		t.Errorf("no edge: %d", got)
	}
	loop := api.Graph{N: 4, E: append(slices.Clone(m.E), api.Edge{U: 1, V: 1, W: 9})}
	if got := matching.Cost(loop, []int{0, 2}); got != 0 {
		t.Errorf("of what is not right: %d", got)
	}
}

// P1302, rule 6: sums on their way may leave the type's range. Where the whole does, the nearest number is told.
func TestCostOfLongLists(t *testing.T) {
	const most = api.MaxCost - 1
	const n = 1 << 23 // so many times most is 1 << 63 less n
	m := multi(2, [3]int64{0, 1, most}, [3]int64{0, 1, -most}, [3]int64{0, 1, n - 1}, [3]int64{0, 1, n}, [3]int64{0, 1, -n}, [3]int64{0, 1, -n - 1})
	in := make([]int, 2*n+10)
	for i := n + 5; i < len(in); i++ {
		in[i] = 1
	}
	for _, c := range []struct {
		what string
		in   []int
		want int64
	}{
		{"within", in[:n], n * most},
		{"beyond", in[:n+1], math.MaxInt64},
		{"there and back", in, 0},
		{"there and back, but for 1", in[:len(in)-1], most},
		{"within, below 0", in[n+5 : 2*n+5], -n * most},
		{"beyond, below 0", in[n+5 : 2*n+6], math.MinInt64},
		{"the greatest", append(slices.Clone(in[:n]), 2), math.MaxInt64},
		{"1 beyond", append(slices.Clone(in[:n]), 3), math.MaxInt64},
		{"the least but n - 1", append(slices.Clone(in[n+5:2*n+5]), 4, 2), math.MinInt64 + n - 1},
		{"the least", append(slices.Clone(in[n+5:2*n+5]), 4), math.MinInt64},
		{"1 beyond, below 0", append(slices.Clone(in[n+5:2*n+5]), 5), math.MinInt64},
	} {
		if got := matching.Cost(m, c.in); got != c.want {
			t.Errorf("%s: %d, not %d", c.what, got, c.want)
		}
	}
}
